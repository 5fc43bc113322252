package compare

import (
	"slices"

	"freehold/api"
	"freehold/checked"
)

// walk goes over two rising lists at once. What it meets it hands on, rising: what both have together, what one of them has alone with nil for the other.
func walk[A, B any](a []A, b []B, order func(x A, y B) int, meet func(x *A, y *B)) {
	for len(a) > 0 && len(b) > 0 {
		switch c := order(a[0], b[0]); {
		case c < 0:
			meet(&a[0], nil)
			a = a[1:]
		case c > 0:
			meet(nil, &b[0])
			b = b[1:]
		default:
			meet(&a[0], &b[0])
			a, b = a[1:], b[1:]
		}
	}
	for i := range a {
		meet(&a[i], nil)
	}
	for i := range b {
		meet(nil, &b[i])
	}
}

func orderLeaves(x, y api.Leaf) int { return checked.Order(x.Path, y.Path) }

func orderLeafAndPath(x api.Leaf, p api.Path) int { return checked.Order(x.Path, p) }

// chosen is the leaves whose paths are in a set, and with each the elements of keyed lists that it lies below.
func chosen(l []api.Leaf, in []api.Path) []api.Leaf {
	var some, waiting []api.Leaf // what waits was not taken, but is at or above the leaf that was met last: none but elements are above others
	walk(l, in, orderLeafAndPath, func(x *api.Leaf, p *api.Path) {
		if x == nil {
			return
		}
		waiting = slices.DeleteFunc(waiting, func(y api.Leaf) bool { return !checked.Above(y.Path, x.Path) })
		waiting = append(waiting, *x)
		if p != nil {
			some = append(some, waiting...)
			waiting = waiting[:0]
		}
	})
	return some
}
