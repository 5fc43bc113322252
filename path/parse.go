package path

import (
	"strconv"
	"strings"

	"freehold/api"
	"freehold/quote"
)

// Parse reads it: the path, or the place of the fault.
func Parse(s string) (api.Path, int, api.Errno) {
	var p api.Path
	r := reader{text: s}
	for r.at < len(s) {
		from := r.at
		e, ok := r.next()
		if len(p) == api.MaxDepth || !ok {
			return nil, from, api.ErrPath
		}
		p = append(p, e)
	}
	return p, -1, api.OK
}

// reader goes through the text of a path.
type reader struct {
	text string
	at   int
}

// next reads an element that may be and is written just so. It is read without asking for that, and then written anew: there is one text an element.
func (r *reader) next() (api.Elem, bool) {
	from := r.at
	e, ok := r.elem()
	if !ok || !mayBe(e) {
		return api.Elem{}, false
	}
	var out strings.Builder
	writeElem(&out, e)
	return e, out.String() == r.text[from:r.at]
}

func (r *reader) elem() (api.Elem, bool) {
	switch {
	case r.take("."):
		name, ok := r.name()
		return api.Elem{Kind: api.ElemField, Name: name}, ok
	case r.take("[="):
		item, ok := r.scalar()
		return api.Elem{Kind: api.ElemItem, Item: item}, ok && r.take("]")
	case r.take("["):
		key, ok := r.key()
		return api.Elem{Kind: api.ElemKey, Key: key}, ok
	}
	return api.Elem{}, false
}

// take goes past some bytes, if they stand here.
func (r *reader) take(s string) bool {
	if !strings.HasPrefix(r.text[r.at:], s) {
		return false
	}
	r.at += len(s)
	return true
}

// key reads a key's members up to the closing bracket, and no more of them than may be.
func (r *reader) key() ([]api.Member, bool) {
	var l []api.Member
	for range api.MaxKeys {
		m, ok := r.member()
		if !ok {
			return nil, false
		}
		l = append(l, m)
		if r.take("]") {
			return l, true
		}
		if !r.take(",") {
			return nil, false
		}
	}
	return nil, false
}

func (r *reader) member() (api.Member, bool) {
	name, ok := r.name()
	if !ok || !r.take("=") {
		return api.Member{}, false
	}
	v, ok := r.scalar()
	return api.Member{Key: name, Val: v}, ok
}

func (r *reader) name() (string, bool) {
	rest := r.text[r.at:]
	if n := plainAhead(rest); n > 0 {
		r.at += n
		return strings.Clone(rest[:n]), true // a piece would keep the whole text
	}
	return r.quoted()
}

func (r *reader) quoted() (string, bool) {
	s, behind, e := quote.Unquote(r.text, r.at)
	if e != api.OK {
		return "", false
	}
	r.at = behind
	return s, true
}

func (r *reader) scalar() (api.Value, bool) {
	switch {
	case r.take("true"):
		return api.Value{Kind: api.Bool, Bool: true}, true
	case r.take("false"):
		return api.Value{Kind: api.Bool}, true
	case strings.HasPrefix(r.text[r.at:], `"`):
		s, ok := r.quoted()
		return api.Value{Kind: api.Str, Str: s}, ok
	}
	return r.integer()
}

func (r *reader) integer() (api.Value, bool) {
	rest := r.text[r.at:]
	run := rest[:len(rest)-len(strings.TrimLeft(rest, "-0123456789"))]
	n, err := strconv.ParseInt(run, 10, 64)
	r.at += len(run)
	return api.Value{Kind: api.Int, Int: int(n)}, err == nil
}
