package validate

import (
	"slices"
	"strconv"

	"freehold/api"
	"freehold/pointer"
)

// shapes holds, by a type's kind, the kind of its values.
var shapes = [...]int{
	api.TypeBool:   api.Bool,
	api.TypeInt:    api.Int,
	api.TypeStr:    api.Str,
	api.TypeStruct: api.Map,
	api.TypeMap:    api.Map,
	api.TypeList:   api.List,
}

// fault is the first fault of a value of a type, and its place.
func (b *book) fault(t api.Type, v api.Value) (string, api.Errno) {
	w := walk{book: b}
	e := w.value(t, v)
	if e == api.OK {
		return "", api.OK
	}
	place, _ := pointer.Print(w.tokens) // keys of good values are text strings
	return place, e
}

// walk goes through a value till it meets a fault.
type walk struct {
	*book
	tokens []string // of the place where it is; a pointer is made only for a fault, since keys may be long and places many
}

// parts has each part of a value looked at, in its order. It alone keeps the place: which stays where look finds a fault.
func (w *walk) parts(v api.Value, look func(token string, x api.Value) api.Errno) api.Errno {
	here := len(w.tokens)
	for i, x := range v.List {
		token := strconv.Itoa(i)
		w.tokens = append(w.tokens[:here], token)
		if e := look(token, x); e != api.OK {
			return e
		}
	}
	for _, m := range v.Map {
		w.tokens = append(w.tokens[:here], m.Key)
		if e := look(m.Key, m.Val); e != api.OK {
			return e
		}
	}
	w.tokens = w.tokens[:here]
	return api.OK
}

// value looks at a value, and then at what it holds.
func (w *walk) value(t api.Type, v api.Value) api.Errno {
	switch {
	case v.Kind == api.Null:
		return api.ErrNull
	case v.Kind != shapes[t.Kind]:
		return api.ErrShape
	case v.Kind == api.Map:
		return w.members(t, v)
	case v.Kind == api.List:
		return w.elements(t, v)
	case !inEnum(t, v):
		return api.ErrEnum
	}
	return api.OK
}

func (w *walk) members(t api.Type, v api.Value) api.Errno {
	return w.parts(v, func(key string, x api.Value) api.Errno {
		name, known := under(t, key)
		switch {
		case !known:
			return api.ErrField
		case x.Kind == api.Null: // as if it were not there
			return api.OK
		}
		return w.value(w.means(name), x)
	})
}

func (w *walk) elements(t api.Type, v api.Value) api.Errno {
	elem, seen := w.means(t.Elem), met{}
	return w.parts(v, func(_ string, x api.Value) api.Errno {
		if lacksKey(t, x) {
			return api.ErrKey
		}
		if e := w.value(elem, x); e != api.OK {
			return e
		}
		if t.Rel != api.Whole && !seen.add(identity(t, x)) {
			return api.ErrTwice
		}
		return api.OK
	})
}

// lacksKey tells whether a map is an element without one of its key fields; other lists than keyed ones have none.
func lacksKey(t api.Type, v api.Value) bool {
	return v.Kind == api.Map && slices.ContainsFunc(t.Keys, func(key string) bool { return member(v, key).Kind == api.Null })
}
