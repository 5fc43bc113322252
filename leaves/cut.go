package leaves

import (
	"freehold/api"
	"freehold/checked"
	"freehold/schema"
	"freehold/value"
)

// cut lists the leaves of a normal value. They have parts of it: it must be memory that nobody else has.
func cut(root place, v api.Value) []api.Leaf {
	var l []api.Leaf
	add := func(way api.Path, v api.Value) {
		l = append(l, api.Leaf{Path: checked.Copy(way), Val: v})
	}
	var walk func(at place, way api.Path, v api.Value)
	walk = func(at place, way api.Path, v api.Value) {
		if schema.Leaf(at.typ) {
			add(way, v)
			return
		}
		for _, x := range v.List {
			e := element(at.typ, x)
			add(append(way, e), api.Value{})
			if next, ok := at.below(e); ok && e.Kind == api.ElemKey { // of a set's member the path has told all
				walk(next, append(way, e), x)
			}
		}
		for _, m := range v.Map {
			e := api.Elem{Kind: api.ElemField, Name: m.Key}
			if next, ok := at.below(e); ok {
				walk(next, append(way, e), m.Val)
			}
		}
	}
	walk(root, make(api.Path, 0, api.MaxDepth), v) // room for the longest: each step writes into it
	return l
}

// element is what leads to a member of a set, or to an element of a keyed list.
func element(list api.Type, v api.Value) api.Elem {
	if list.Rel == api.Set {
		return api.Elem{Kind: api.ElemItem, Item: v}
	}
	e := api.Elem{Kind: api.ElemKey}
	for _, key := range list.Keys {
		x, _ := value.Get(v, key) // it is there: the value is valid
		e.Key = append(e.Key, api.Member{Key: key, Val: x})
	}
	return e
}
