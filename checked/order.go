// Package checked works on paths of which somebody has asked already whether they may be (path.Check): what goes over many paths asks that once for each, not at each step. Of what are no paths it says nothing, but that its calls end.
package checked

import (
	"cmp"
	"strings"

	"freehold/api"
)

// Order tells which of two paths stands first: -1, 0 or 1.
func Order(p, q api.Path) int { return order(p, q, OrderElems) }

// Above tells whether a path is at or above another one.
func Above(p, q api.Path) bool { return len(p) <= len(q) && Order(p, q[:len(p)]) == 0 }

// order tells which of two lists stands first: the first unlike elements say so, and where there are none the shorter one does. Paths are ordered by it, and within them keys.
func order[T any](a, b []T, by func(x, y T) int) int {
	for i := range min(len(a), len(b)) {
		if c := by(a[i], b[i]); c != 0 {
			return c
		}
	}
	return cmp.Compare(len(a), len(b))
}

// OrderElems tells which of two elements stands first. It goes by the kinds, which are numbered as they are ordered, then by what the kind uses.
func OrderElems(a, b api.Elem) int {
	if a.Kind != b.Kind {
		return cmp.Compare(a.Kind, b.Kind)
	}
	switch a.Kind {
	case api.ElemField:
		return strings.Compare(a.Name, b.Name)
	case api.ElemKey:
		return order(a.Key, b.Key, orderMembers)
	}
	return orderScalars(a.Item, b.Item)
}

func orderMembers(a, b api.Member) int {
	if a.Key != b.Key {
		return strings.Compare(a.Key, b.Key)
	}
	return orderScalars(a.Val, b.Val)
}

// orderScalars is value.Compare's order without its look at each value.
func orderScalars(a, b api.Value) int {
	switch {
	case a.Kind != b.Kind:
		return cmp.Compare(a.Kind, b.Kind)
	case a.Bool != b.Bool && b.Bool:
		return -1
	case a.Bool != b.Bool:
		return 1
	case a.Int != b.Int:
		return cmp.Compare(a.Int, b.Int)
	}
	return strings.Compare(a.Str, b.Str)
}
