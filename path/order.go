package path

import (
	"cmp"
	"strings"

	"freehold/api"
)

// Compare orders paths.
func Compare(p, q api.Path) int {
	if Check(p) != api.OK || Check(q) != api.OK {
		return 0
	}
	return orderPaths(p, q)
}

// Above tells whether a path is at or above another one.
func Above(p, q api.Path) bool {
	return Check(p) == api.OK && Check(q) == api.OK && len(p) <= len(q) && samePaths(p, q[:len(p)])
}

// order tells which of two lists stands first: the first unlike elements say so, and where there are none the shorter one does. Paths are ordered by it, and within them keys.
func order[T any](a, b []T, by func(x, y T) int) int {
	for i := range min(len(a), len(b)) {
		if c := by(a[i], b[i]); c != 0 {
			return c
		}
	}
	return cmp.Compare(len(a), len(b))
}

func orderPaths(p, q api.Path) int { return order(p, q, orderElems) }

func samePaths(p, q api.Path) bool { return orderPaths(p, q) == 0 }

// orderElems goes by the kinds first, which are numbered as they are ordered.
func orderElems(a, b api.Elem) int {
	if a.Kind != b.Kind {
		return cmp.Compare(a.Kind, b.Kind)
	}
	switch a.Kind {
	case api.ElemField:
		return strings.Compare(a.Name, b.Name)
	case api.ElemKey:
		return order(a.Key, b.Key, orderMembers)
	}
	return orderScalars(a.Item, b.Item)
}

func orderMembers(a, b api.Member) int {
	if a.Key != b.Key {
		return strings.Compare(a.Key, b.Key)
	}
	return orderScalars(a.Val, b.Val)
}

// orderScalars is value.Compare's order without its look at each value: a path was looked at as a whole.
func orderScalars(a, b api.Value) int {
	switch {
	case a.Kind != b.Kind:
		return cmp.Compare(a.Kind, b.Kind)
	case a.Bool != b.Bool && b.Bool:
		return -1
	case a.Bool != b.Bool:
		return 1
	case a.Int != b.Int:
		return cmp.Compare(a.Int, b.Int)
	}
	return strings.Compare(a.Str, b.Str)
}
