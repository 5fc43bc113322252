package schema

import (
	"slices"

	"freehold/api"
	"freehold/quote"
)

// isName tells whether a text may be the name of a type or of a kind.
func isName(s string) bool {
	if len(s) == 0 || len(s) > api.MaxName || !isLetter(s[0]) {
		return false
	}
	for i := range len(s) {
		if c := s[i]; !isLetter(c) && (c < '0' || c > '9') && c != '_' && c != '-' {
			return false
		}
	}
	return true
}

func isLetter(c byte) bool { return c >= 'A' && c <= 'Z' || c >= 'a' && c <= 'z' }

func isFieldName(s string) bool {
	return len(s) > 0 && len(s) <= api.MaxName && quote.Valid(s)
}

// fewLooks is how many names are looked up by going through the types: for so few an index is not worth its making.
const fewLooks = 8

// book finds the types of a schema, be it one that may be or not, by their names.
type book struct {
	types []api.Type
	looks int
	index map[string]int // by name the first type that has it; nil, till more than a few names were looked up
}

// find is the place of the first type with a name; below 0: there is none.
func (b *book) find(name string) int {
	if b.index != nil {
		if i, there := b.index[name]; there {
			return i
		}
		return -1
	}
	if b.looks++; b.looks > fewLooks {
		b.makeIndex()
		return b.find(name)
	}
	return slices.IndexFunc(b.types, func(t api.Type) bool { return t.Name == name })
}

func (b *book) makeIndex() {
	b.index = make(map[string]int, len(b.types))
	for i, t := range slices.Backward(b.types) {
		b.index[t.Name] = i
	}
}

// stands is the type that a name stands for.
func (b *book) stands(name string) (api.Type, bool) {
	if t, ok := scalarNamed(name); ok {
		return t, true
	}
	if i := b.find(name); i >= 0 {
		return b.types[i], true
	}
	return api.Type{}, false
}

// means is the type that a name means, not yet in memory of its own.
func (b *book) means(name string) (api.Type, api.Errno) {
	for range len(b.types) + 1 { // whoever needs more steps has met a type twice
		t, ok := b.stands(name)
		if !ok {
			return api.Type{}, api.ErrSchemaRef
		}
		if t.Kind != api.TypeName {
			return t, api.OK
		}
		name = t.Elem
	}
	return api.Type{}, api.ErrSchemaLoop
}

func (b *book) root(l []api.Root, kind string) (api.Type, api.Errno) {
	i := slices.IndexFunc(l, func(r api.Root) bool { return r.Kind == kind })
	if i < 0 {
		return api.Type{}, api.ErrKind
	}
	return b.means(l[i].Type)
}

// meansScalar tells whether a name means a scalar type.
func (b *book) meansScalar(name string) bool {
	t, e := b.means(name)
	return e == api.OK && isScalar(t)
}

// fieldOf is the first field of a struct with a name.
func fieldOf(t api.Type, name string) (api.Field, bool) {
	i := slices.IndexFunc(t.Fields, func(f api.Field) bool { return f.Name == name })
	if i < 0 {
		return api.Field{}, false
	}
	return t.Fields[i], true
}
