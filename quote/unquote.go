package quote

import (
	"strings"
	"unicode/utf8"

	"freehold/api"
)

// Unquote reads the string that begins at a place: the string, the place behind it; with an error where it is told.
func Unquote(text string, at int) (string, int, api.Errno) {
	if at < 0 || at > len(text) {
		return "", 0, api.ErrArg
	}
	r := reader{text: text, at: at}
	if e := r.quoted(); e != api.OK {
		return "", r.at, e
	}
	return r.out.String(), r.at, api.OK
}

// reader goes through a text. Where one of its methods fails, at is the place of the fault.
type reader struct {
	text string
	at   int
	out  strings.Builder
}

func (r *reader) quoted() api.Errno {
	if !r.take('"') {
		return api.ErrQuote
	}
	for r.at < len(r.text) && r.text[r.at] >= ' ' {
		if r.take('"') {
			return api.OK
		}
		if e := r.char(); e != api.OK {
			return e
		}
	}
	return api.ErrQuote
}

// take goes past a byte, if it stands here.
func (r *reader) take(c byte) bool {
	if r.at == len(r.text) || r.text[r.at] != c {
		return false
	}
	r.at++
	return true
}

func (r *reader) char() api.Errno {
	if r.take('\\') {
		return r.escape()
	}
	if c := r.text[r.at]; c < utf8.RuneSelf {
		r.out.WriteByte(c)
		r.at++
		return api.OK
	}
	return r.sequence()
}

func (r *reader) sequence() api.Errno {
	c, size := utf8.DecodeRuneInString(r.text[r.at:])
	if c == utf8.RuneError && size == 1 { // U+FFFD itself has the size 3
		r.at = brokenAt(r.text, r.at)
		return api.ErrUTF
	}
	r.out.WriteRune(c)
	r.at += size
	return api.OK
}

// brokenAt is the place of the first byte that does not go on with the sequence begun at a place. The library calls a broken beginning full, so only what may still become a sequence is not full.
func brokenAt(text string, at int) int {
	end := at
	for end < len(text) && !utf8.FullRuneInString(text[at:end+1]) {
		end++
	}
	return end
}

// escape reads what stands behind a backslash.
func (r *reader) escape() api.Errno {
	if r.take('u') {
		return r.number()
	}
	if r.at == len(r.text) {
		return api.ErrEscape
	}
	c := said(r.text[r.at])
	if c == 0 {
		return api.ErrEscape
	}
	r.out.WriteByte(c)
	r.at++
	return api.OK
}

func said(letter byte) byte {
	if letter >= utf8.RuneSelf {
		return 0
	}
	return saidBy[letter]
}

// The halves of a pair: a first one is from firstHalf on and below secondHalf.
const (
	firstHalf  rune = 0xd800
	secondHalf rune = 0xdc00
	pairBase   rune = 0x10000
)

// number reads a scalar value by its digits, both halves where it is a pair.
func (r *reader) number() api.Errno {
	c, ok := r.digits(false)
	if !ok {
		return api.ErrEscape
	}
	if c >= firstHalf && c < secondHalf {
		if !r.take('\\') || !r.take('u') {
			return api.ErrEscape
		}
		low, ok := r.digits(true)
		if !ok {
			return api.ErrEscape
		}
		c = pairBase + (c-firstHalf)<<10 + (low - secondHalf)
	}
	r.out.WriteRune(c)
	return api.OK
}

// digits reads four digits: those of a pair's second half where it is awaited, else none of these.
func (r *reader) digits(awaited bool) (rune, bool) {
	var c rune
	for i := range 4 {
		if r.at == len(r.text) {
			return 0, false
		}
		d := digit(r.text[r.at])
		if d < 0 || !goesOn(c, d, i, awaited) {
			return 0, false
		}
		c = c<<4 | d
		r.at++
	}
	return c, true
}

// goesOn tells whether the digit d may stand as the i-th behind those that made c: the first two digits settle whether a number is a second half.
func goesOn(c, d rune, i int, awaited bool) bool {
	switch i {
	case 0:
		return !awaited || d == 0xd
	case 1:
		return (c == 0xd && d >= 0xc) == awaited
	}
	return true
}

// digit is what a digit to the base 16 says; -1: it is none.
func digit(c byte) rune {
	switch {
	case c >= '0' && c <= '9':
		return rune(c - '0')
	case c >= 'a' && c <= 'f':
		return rune(c-'a') + 10
	case c >= 'A' && c <= 'F':
		return rune(c-'A') + 10
	}
	return -1
}
