package checked

import (
	"iter"

	"freehold/api"
)

// Parts cuts things that rise by their paths, each of which has more than so many elements and all of which begin with the same ones, into the parts that have the next element in common, one behind the other.
func Parts[T any](l []T, depth int, way func(x T) api.Path) iter.Seq[[]T] {
	return func(yield func([]T) bool) {
		for from := 0; from < len(l); {
			to := from + 1
			for to < len(l) && OrderElems(way(l[from])[depth], way(l[to])[depth]) == 0 {
				to++
			}
			if !yield(l[from:to]) {
				return
			}
			from = to
		}
	}
}
