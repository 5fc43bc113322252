package leaves

import (
	"slices"

	"freehold/api"
	"freehold/schema"
)

// place is what a type says of a place in its values.
type place struct {
	schema api.Schema
	typ    api.Type
	keys   []string // of an element of a keyed list: its key fields, which have no leaves
}

// below is the place behind an element; false, if none is there that may have leaves.
func (p place) below(e api.Elem) (place, bool) {
	if e.Kind == api.ElemField && slices.Contains(p.keys, e.Name) {
		return place{}, false
	}
	t, fault := schema.Below(p.schema, p.typ, e)
	if fault != api.OK {
		return place{}, false
	}
	return place{schema: p.schema, typ: t, keys: p.typ.Keys}, true // no other type than a keyed list's has Keys
}
