package strategic

import (
	"slices"
	"strings"

	"freehold/api"
	"freehold/schema"
)

// shape is a sort of types: what a patch may be there, what it does, and which one leads from one value to another.
type shape interface {
	// takes tells whether each directive of a patch may be.
	takes(p api.Value) bool
	// patch is what a patch that is taken makes of what stands there. It may change that itself: nobody else has it.
	patch(c content, p api.Value) content
	// between is the patch from a to b, and whether they part. It gives up where no patch leads there.
	between(a, b api.Value) (api.Value, bool)
	// whole gives up, if a value is no patch by which it comes to stand where nothing is.
	whole(v api.Value)
}

// The shapes.
type (
	// leaf is of types within which no patch looks.
	leaf struct{}

	// holder is of structs and maps.
	holder struct {
		book *book
		typ  api.Type
		keys []string // of the elements of a keyed list: the key fields
	}

	// set is of sets.
	set struct{}

	// keyed is of keyed lists.
	keyed struct {
		keys []string
		elem holder
	}
)

// book keeps the shapes of a schema's types by their names: a value may have many parts of one type, and a schema that is asked goes through its types and copies the one that it answers.
type book struct {
	schema api.Schema
	known  map[string]shape
}

// rootShape is the shape of a type that the schema has.
func rootShape(s api.Schema, typ string) shape {
	b := &book{schema: s, known: map[string]shape{}}
	return b.shape(typ)
}

// shape is that of the type that a name means. That it means one is sure: a schema that may be uses no others.
func (b *book) shape(name string) shape {
	x, there := b.known[name]
	if !there {
		t, _ := schema.Means(b.schema, name)
		x = b.shapeOf(t)
		b.known[name] = x
	}
	return x
}

// shapeOf asks for no shapes of what lies below: types may hold themselves.
func (b *book) shapeOf(t api.Type) shape {
	switch {
	case schema.Leaf(t):
		return leaf{}
	case t.Kind != api.TypeList:
		return holder{book: b, typ: t}
	case t.Rel == api.Set:
		return set{}
	}
	elem, _ := schema.Means(b.schema, t.Elem)
	return keyed{keys: t.Keys, elem: holder{book: b, typ: elem, keys: t.Keys}}
}

// below is the shape of a member; false, if the struct has no such field.
func (h holder) below(key string) (shape, bool) {
	if h.typ.Kind == api.TypeMap {
		return h.book.shape(h.typ.Elem), true
	}
	i, there := slices.BinarySearchFunc(h.typ.Fields, key, func(f api.Field, key string) int { return strings.Compare(f.Name, key) })
	if !there {
		return nil, false
	}
	return h.book.shape(h.typ.Fields[i].Type), true
}
