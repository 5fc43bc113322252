package validate

import (
	"slices"

	"freehold/api"
	"freehold/schema"
)

// normal is the normal form of a valid value of a type, in memory of its own.
func (b *book) normal(t api.Type, v api.Value) api.Value {
	switch {
	case schema.Leaf(t):
		return withoutNulls(v)
	case t.Kind == api.TypeList:
		return api.Value{Kind: api.List, List: b.inOrder(t, v.List)}
	}
	return api.Value{Kind: api.Map, Map: b.leftOver(t, v.Map)}
}

// withoutNulls does to something atomic all that is done there. No list holds a null, so only members go.
func withoutNulls(v api.Value) api.Value {
	var list []api.Value
	for _, x := range v.List {
		list = append(list, withoutNulls(x))
	}
	var members []api.Member
	for _, m := range v.Map {
		if m.Val.Kind != api.Null {
			members = append(members, api.Member{Key: m.Key, Val: withoutNulls(m.Val)})
		}
	}
	v.List, v.Map = list, members
	return v
}

// leftOver is the members of a struct's or a map's value that say something, in their normal forms.
func (b *book) leftOver(t api.Type, from []api.Member) []api.Member {
	var to []api.Member
	for _, m := range from {
		if m.Val.Kind == api.Null {
			continue
		}
		name, _ := under(t, m.Key)
		part := b.means(name)
		x := b.normal(part, m.Val)
		if schema.Leaf(part) || len(x.List)+len(x.Map) > 0 {
			to = append(to, api.Member{Key: m.Key, Val: x})
		}
	}
	return to
}

// element is an element of a set or a keyed list, with what tells its place there.
type element struct {
	identity []scalar
	val      api.Value
}

// inOrder is the elements of a set or a keyed list in their normal forms, as their identities rise.
func (b *book) inOrder(t api.Type, from []api.Value) []api.Value {
	elem := b.means(t.Elem)
	l := make([]element, len(from))
	for i, x := range from {
		l[i] = element{identity: identity(t, x), val: b.normal(elem, x)}
	}
	slices.SortFunc(l, func(x, y element) int { return slices.CompareFunc(x.identity, y.identity, order) })
	to := make([]api.Value, len(l))
	for i, x := range l {
		to[i] = x.val
	}
	return to
}
