package selector

import (
	"strings"

	"freehold/api"
	"freehold/quote"
)

// Print is its canonical text.
func Print(l []api.Term) (string, api.Errno) {
	if !isSelector(l) {
		return "", api.ErrSelector
	}
	var out strings.Builder
	for i, t := range l {
		if i > 0 {
			out.WriteByte(',')
		}
		writeTerm(&out, t)
	}
	return out.String(), api.OK
}

func writeTerm(out *strings.Builder, t api.Term) {
	if t.Op == api.HasNot {
		out.WriteByte('!')
	}
	out.WriteString(wordText(t.Key))
	switch t.Op {
	case api.In:
		writeValues(out, t.Vals, "=", " in (")
	case api.NotIn:
		writeValues(out, t.Vals, "!=", " notin (")
	}
}

// writeValues writes one value behind a sign, more of them within brackets.
func writeValues(out *strings.Builder, l []string, sign, open string) {
	if len(l) == 1 {
		out.WriteString(sign)
		out.WriteString(wordText(l[0]))
		return
	}
	ahead := open
	for _, s := range l {
		out.WriteString(ahead)
		out.WriteString(wordText(s))
		ahead = ","
	}
	out.WriteByte(')')
}

// wordText is the text of a word that may be, which is UTF-8.
func wordText(s string) string {
	if s != "" && plainAhead(s) == s {
		return s
	}
	text, _ := quote.Quote(s)
	return text
}
