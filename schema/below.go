package schema

import (
	"freehold/api"
	"freehold/quote"
)

// below is the type behind an element, not yet in memory of its own.
func (b *book) below(t api.Type, e api.Elem) (api.Type, api.Errno) {
	name, ok := b.behind(t, e)
	if !ok {
		return api.Type{}, api.ErrPath
	}
	return b.means(name)
}

// behind is the name of the type that stands behind an element of what has the type t, if the element may stand there.
func (b *book) behind(t api.Type, e api.Elem) (string, bool) {
	if Leaf(t) || !bare(e) {
		return "", false
	}
	switch {
	case t.Kind == api.TypeStruct && e.Kind == api.ElemField:
		f, ok := fieldOf(t, e.Name)
		return f.Type, ok
	case t.Kind == api.TypeMap && e.Kind == api.ElemField:
		return t.Elem, quote.Valid(e.Name)
	case t.Kind == api.TypeList && t.Rel == api.Set && e.Kind == api.ElemItem:
		return t.Elem, b.isOf(t.Elem, e.Item)
	case t.Kind == api.TypeList && t.Rel == api.Keyed && e.Kind == api.ElemKey:
		return t.Elem, b.isKey(t, e.Key)
	}
	return "", false
}

// bare tells whether an element has nothing that its kind does not use.
func bare(e api.Elem) bool {
	switch e.Kind {
	case api.ElemField:
		return len(e.Key) == 0 && isZero(e.Item)
	case api.ElemKey:
		return e.Name == "" && isZero(e.Item)
	case api.ElemItem:
		return e.Name == "" && len(e.Key) == 0
	}
	return false
}

func isZero(v api.Value) bool {
	return v.Kind == 0 && !v.Bool && v.Int == 0 && v.Str == "" && len(v.List) == 0 && len(v.Map) == 0
}

// isOf tells whether a value is of the scalar type that a name means.
func (b *book) isOf(name string, v api.Value) bool {
	t, e := b.means(name)
	return e == api.OK && Is(t, v)
}

// isKey tells whether members are the key fields of an element of a keyed list.
func (b *book) isKey(t api.Type, l []api.Member) bool {
	elem, e := b.means(t.Elem)
	if e != api.OK || elem.Kind != api.TypeStruct || len(l) != len(t.Keys) {
		return false
	}
	for i, m := range l {
		f, ok := fieldOf(elem, m.Key)
		if !ok || m.Key != t.Keys[i] || !b.isOf(f.Type, m.Val) {
			return false
		}
	}
	return true
}
