package quote

import (
	"strings"
	"sync"

	"freehold/api"
)

// What stands here follows the chapter's section Words step by step, without the library's UTF-8, so that the tests do not ask the program about itself.

// sequenceOf is what UTF-8 writes for a scalar value.
func sequenceOf(v int) string {
	switch {
	case v < 128:
		return string([]byte{byte(v)})
	case v < 2048:
		return string([]byte{byte(192 + v>>6), byte(128 + v&63)})
	case v < 65536:
		return string([]byte{byte(224 + v>>12), byte(128 + v>>6&63), byte(128 + v&63)})
	}
	return string([]byte{byte(240 + v>>18), byte(128 + v>>12&63), byte(128 + v>>6&63), byte(128 + v&63)})
}

func eachScalar(f func(v int)) {
	for v := 0; v <= 0x10ffff; v++ {
		if v < 0xd800 || v > 0xdfff {
			f(v)
		}
	}
}

// sequences tells of each beginning of a sequence whether it is a whole one.
var sequences = sync.OnceValue(func() map[string]bool {
	m := map[string]bool{}
	eachScalar(func(v int) {
		s := sequenceOf(v)
		for i := 1; i < len(s); i++ {
			m[s[:i]] = false
		}
		m[s] = true
	})
	return m
})

// cutSequence reads a sequence at a place: the place behind it, or that of the byte that does not go on.
func cutSequence(text string, at int) (int, bool) {
	for end := at; end < len(text); end++ {
		whole, known := sequences()[text[at:end+1]]
		if !known {
			return end, false
		}
		if whole {
			return end + 1, true
		}
	}
	return len(text), false
}

func isTextString(s string) bool {
	for at := 0; at < len(s); {
		next, ok := cutSequence(s, at)
		if !ok {
			return false
		}
		at = next
	}
	return true
}

const anyDigit = "0123456789abcdefABCDEF"

// escapeForms: every form of an escape, byte by byte which bytes may stand there.
var escapeForms = [][]string{
	{`\`, `"\/bfnrt`},
	{`\`, `u`, "0123456789abcefABCEF", anyDigit, anyDigit, anyDigit},
	{`\`, `u`, "dD", "01234567", anyDigit, anyDigit},
	{`\`, `u`, "dD", "89abAB", anyDigit, anyDigit, `\`, `u`, "dD", "cdefCDEF", anyDigit, anyDigit},
}

// cutEscape reads an escape at a place: the place behind it, or that of the byte that does not go on.
func cutEscape(text string, at int) (int, bool) {
	furthest := at
	for _, form := range escapeForms {
		n := 0
		for n < len(form) && at+n < len(text) && strings.IndexByte(form[n], text[at+n]) >= 0 {
			n++
		}
		if n == len(form) {
			return at + n, true
		}
		furthest = max(furthest, at+n)
	}
	return furthest, false
}

// escapeSays is the string that a whole escape says.
func escapeSays(e string) string {
	if e[1] != 'u' {
		return string([]byte{"\"\\/\b\f\n\r\t"[strings.IndexByte(`"\/bfnrt`, e[1])]})
	}
	v := hexNumber(e[2:6])
	if len(e) > 6 {
		v = 65536 + 1024*(v-0xd800) + hexNumber(e[8:]) - 0xdc00
	}
	return sequenceOf(v)
}

func hexNumber(s string) int {
	v := 0
	for i := range len(s) {
		v = v*16 + strings.IndexByte("0123456789abcdef", strings.ToLower(s)[i])
	}
	return v
}

func referenceUnquote(text string, at int) (string, int, api.Errno) {
	if at < 0 || at > len(text) {
		return "", 0, api.ErrArg
	}
	if at == len(text) || text[at] != '"' {
		return "", at, api.ErrQuote
	}
	out := ""
	for at++; at < len(text) && text[at] != '"'; {
		if text[at] < 32 {
			return "", at, api.ErrQuote
		}
		if text[at] == '\\' {
			next, ok := cutEscape(text, at)
			if !ok {
				return "", next, api.ErrEscape
			}
			out, at = out+escapeSays(text[at:next]), next
			continue
		}
		next, ok := cutSequence(text, at)
		if !ok {
			return "", next, api.ErrUTF
		}
		out, at = out+text[at:next], next
	}
	if at == len(text) {
		return "", at, api.ErrQuote
	}
	return out, at + 1, api.OK
}

// referenceQuote writes a text string.
func referenceQuote(s string) string {
	out := `"`
	for i := range len(s) {
		short := strings.IndexByte("\"\\\b\t\n\f\r", s[i])
		switch {
		case short >= 0:
			out += []string{`\"`, `\\`, `\b`, `\t`, `\n`, `\f`, `\r`}[short]
		case s[i] < 32:
			out += `\u00` + string("0123456789abcdef"[s[i]/16]) + string("0123456789abcdef"[s[i]%16])
		default:
			out += s[i : i+1]
		}
	}
	return out + `"`
}
