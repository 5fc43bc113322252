package path

import (
	"strconv"
	"strings"

	"freehold/api"
	"freehold/quote"
)

// Text is a path's text.
func Text(p api.Path) (string, api.Errno) {
	if e := Check(p); e != api.OK {
		return "", e
	}
	var out strings.Builder
	for _, e := range p {
		writeElem(&out, e)
	}
	return out.String(), api.OK
}

func writeElem(out *strings.Builder, e api.Elem) {
	switch e.Kind {
	case api.ElemField:
		out.WriteByte('.')
		out.WriteString(nameText(e.Name))
	case api.ElemKey:
		writeKey(out, e.Key)
	case api.ElemItem:
		out.WriteString("[=")
		out.WriteString(scalarText(e.Item))
		out.WriteByte(']')
	}
}

func writeKey(out *strings.Builder, l []api.Member) {
	ahead := byte('[')
	for _, m := range l {
		out.WriteByte(ahead)
		out.WriteString(nameText(m.Key))
		out.WriteByte('=')
		out.WriteString(scalarText(m.Val))
		ahead = ','
	}
	out.WriteByte(']')
}

func nameText(name string) string {
	if name != "" && plainAhead(name) == len(name) {
		return name
	}
	return quoted(name)
}

// scalarText is json.Print's text, without its bound.
func scalarText(v api.Value) string {
	switch v.Kind {
	case api.Bool:
		return strconv.FormatBool(v.Bool)
	case api.Int:
		return strconv.Itoa(v.Int)
	}
	return quoted(v.Str)
}

// quoted is the text of a string of a path that may be, which is UTF-8.
func quoted(s string) string {
	text, _ := quote.Quote(s)
	return text
}

// plainAhead tells how many bytes at the front of a text are a plain name; 0: none is there.
func plainAhead(s string) int {
	for i, r := range s {
		if !letter(r) && (i == 0 || !digit(r) && r != '-') {
			return i
		}
	}
	return len(s)
}

func letter(r rune) bool { return r >= 'A' && r <= 'Z' || r >= 'a' && r <= 'z' || r == '_' }

func digit(r rune) bool { return r >= '0' && r <= '9' }
