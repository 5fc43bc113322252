package selector

import (
	"slices"
	"strings"

	"freehold/api"
	"freehold/quote"
)

// Parse reads a selector; the place of the fault.
func Parse(text string) ([]api.Term, int, api.Errno) {
	if len(text) > api.MaxText {
		return nil, api.MaxText, api.ErrSelector
	}
	r := &reader{text: text}
	l, ok := r.terms()
	if !ok {
		return nil, r.at, api.ErrSelector
	}
	return l, -1, api.OK
}

// reader goes through the text of a selector. Where its methods begin, no blank stands at at; where one of them fails, at is the place of the fault.
type reader struct {
	text string
	at   int
}

func (r *reader) rest() string { return r.text[r.at:] }

// pass goes past so many bytes, and past the blanks behind them.
func (r *reader) pass(n int) {
	r.at += n
	r.at += len(r.rest()) - len(strings.TrimLeft(r.rest(), " "))
}

// take goes past a sign, if it stands here.
func (r *reader) take(sign string) bool {
	if !strings.HasPrefix(r.rest(), sign) {
		return false
	}
	r.pass(len(sign))
	return true
}

func (r *reader) terms() ([]api.Term, bool) {
	r.pass(0)
	if r.rest() == "" {
		return nil, true
	}
	var l []api.Term
	for {
		t, ok := r.term()
		if !ok {
			return nil, false
		}
		l = append(l, t)
		if r.rest() == "" {
			return l, true
		}
		if !r.take(",") {
			return nil, false
		}
	}
}

func (r *reader) term() (api.Term, bool) {
	hasNot := r.take("!")
	key, ok := r.word(1)
	if !ok {
		return api.Term{}, false
	}
	if hasNot {
		return api.Term{Key: key, Op: api.HasNot}, true
	}
	op, vals, ok := r.condition()
	return api.Term{Key: key, Op: op, Vals: vals}, ok
}

// condition reads what stands behind a key: an operator and its values. What is no operator is left to whoever looks for the term's end.
func (r *reader) condition() (op int, vals []string, ok bool) {
	op = api.In
	switch sign := r.operator(); sign {
	case "!=":
		op = api.NotIn
		fallthrough
	case "=", "==":
		r.pass(len(sign))
		vals, ok = r.one()
	case "notin":
		op = api.NotIn
		fallthrough
	case "in":
		r.pass(len(sign))
		vals, ok = r.many()
	default:
		op, ok = api.Has, true
	}
	return op, vals, ok
}

// operator is the operator that stands here, if it is one of signs; else the plain word, which may be one.
func (r *reader) operator() string {
	for _, sign := range [...]string{"==", "=", "!="} {
		if strings.HasPrefix(r.rest(), sign) {
			return sign
		}
	}
	return plainAhead(r.rest())
}

func (r *reader) one() ([]string, bool) {
	s, ok := r.word(0)
	if !ok {
		return nil, false
	}
	return []string{s}, true
}

func (r *reader) many() ([]string, bool) {
	if !r.take("(") {
		return nil, false
	}
	var l []string
	for {
		s, ok := r.word(0)
		if !ok {
			return nil, false
		}
		l = append(l, s)
		if r.take(")") {
			slices.Sort(l)
			return slices.Compact(l), true
		}
		if !r.take(",") {
			return nil, false
		}
	}
}

// word reads a word that has at least so many bytes, and no more than may be.
func (r *reader) word(least int) (string, bool) {
	s := strings.Clone(plainAhead(r.rest())) // a piece would keep the whole text
	behind := r.at + len(s)
	if s == "" {
		var e api.Errno
		if s, behind, e = quote.Unquote(r.text, r.at); e != api.OK {
			return "", false
		}
	}
	if len(s) < least || !isWord(s) {
		return "", false
	}
	r.pass(behind - r.at)
	return s, true
}

// plainAhead is the plain word at the front of a text; the empty text, if none stands there.
func plainAhead(s string) string {
	for i := range len(s) {
		if !plain(s[i]) {
			return s[:i]
		}
	}
	return s
}

func plain(c byte) bool {
	switch {
	case c >= 'A' && c <= 'Z', c >= 'a' && c <= 'z', c >= '0' && c <= '9':
		return true
	}
	return c == '-' || c == '_' || c == '.' || c == '/'
}
