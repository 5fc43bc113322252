package request

import (
	"strings"

	"freehold/api"
	"freehold/quote"
)

const (
	letters = "ABCDEFGHIJKLMNOPQRSTUVWXYZabcdefghijklmnopqrstuvwxyz"
	digits  = "0123456789"
)

func isKind(s string) bool {
	return isShort(s) && madeOf(s[:1], letters) && madeOf(s, letters+digits+"_-")
}

func isName(s string) bool {
	return isShort(s) && madeOf(s[:1], letters+digits) && madeOf(s, letters+digits+"._-")
}

func isManager(s string) bool { return isShort(s) && quote.Valid(s) }

func isSelector(s string) bool { return len(s) <= api.MaxSelector && quote.Valid(s) }

func isWhere(s string) bool { return len(s) <= api.MaxWhere && quote.Valid(s) }

func isShort(s string) bool { return len(s) >= 1 && len(s) <= api.MaxName }

// madeOf tells whether all bytes of a text are among some.
func madeOf(s, some string) bool { return strings.Trim(s, some) == "" }
