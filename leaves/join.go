package leaves

import (
	"slices"
	"strings"

	"freehold/api"
	"freehold/checked"
	"freehold/schema"
)

// joined is the value of leaves that nothing hinders from being a value's, however large. It shares their memory.
func joined(root place, l []api.Leaf) api.Value {
	way := func(x api.Leaf) api.Path { return x.Path }
	var walk func(at place, l []api.Leaf, depth int) api.Value
	walk = func(at place, l []api.Leaf, depth int) api.Value {
		if schema.Leaf(at.typ) {
			return l[0].Val
		}
		v := api.Value{Kind: api.Map}
		if at.typ.Kind == api.TypeList {
			v.Kind = api.List
		}
		for part := range checked.Parts(l, depth, way) {
			e := part[0].Path[depth]
			next, _ := at.below(e)
			switch e.Kind {
			case api.ElemField:
				v.Map = append(v.Map, api.Member{Key: e.Name, Val: walk(next, part, depth+1)})
			case api.ElemKey:
				rest := walk(next, part[1:], depth+1) // the element's own leaf stands first
				v.List = append(v.List, withKeys(rest, e.Key))
			case api.ElemItem:
				v.List = append(v.List, e.Item)
			}
		}
		return v
	}
	return walk(root, l, 0)
}

// withKeys is an element with its key fields, each at its place among the others.
func withKeys(v api.Value, keys []api.Member) api.Value {
	v.Map = slices.Concat(v.Map, keys)
	slices.SortFunc(v.Map, func(a, b api.Member) int { return strings.Compare(a.Key, b.Key) })
	return v
}
