// Package quote: strings as JSON writes them: chapter 1.
package quote

import (
	"strings"
	"unicode/utf8"

	"freehold/api"
)

// letterOf holds, by the byte, the letter that a backslash writes it with; 0: it has none.
var letterOf = [128]byte{
	'"':  '"',
	'\\': '\\',
	'\b': 'b',
	'\t': 't',
	'\n': 'n',
	'\f': 'f',
	'\r': 'r',
}

// saidBy holds, by the letter, the byte that it says behind a backslash; 0: it says none.
var saidBy = [128]byte{
	'"':  '"',
	'\\': '\\',
	'/':  '/',
	'b':  '\b',
	'f':  '\f',
	'n':  '\n',
	'r':  '\r',
	't':  '\t',
}

const hexDigits = "0123456789abcdef"

// Valid tells whether a string is Unicode scalar values in UTF-8.
func Valid(s string) bool { return utf8.ValidString(s) }

// Quote is the one text of a string.
func Quote(s string) (string, api.Errno) {
	size, e := Size(s)
	if e != api.OK {
		return "", e
	}
	var out strings.Builder
	out.Grow(size)
	out.WriteByte('"')
	for i := range len(s) {
		writeByte(&out, s[i])
	}
	out.WriteByte('"')
	return out.String(), api.OK
}

// Size tells how many bytes Quote has.
func Size(s string) (int, api.Errno) {
	if !Valid(s) {
		return 0, api.ErrUTF
	}
	size := 2
	for i := range len(s) {
		size += width(s[i])
	}
	return size, api.OK
}

func letter(c byte) byte {
	if c >= utf8.RuneSelf {
		return 0
	}
	return letterOf[c]
}

// width and writeByte go byte by byte, because every byte of a longer sequence stands for itself.
func width(c byte) int {
	switch {
	case letter(c) != 0:
		return 2
	case c < ' ':
		return 6
	}
	return 1
}

func writeByte(out *strings.Builder, c byte) {
	switch l := letter(c); {
	case l != 0:
		out.WriteByte('\\')
		out.WriteByte(l)
	case c < ' ':
		out.WriteString("\\u00")
		out.WriteByte(hexDigits[c>>4])
		out.WriteByte(hexDigits[c&15])
	default:
		out.WriteByte(c)
	}
}
