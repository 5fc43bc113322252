package pathset

import (
	"iter"

	"freehold/api"
	"freehold/checked"
)

// Union has what one of the two has.
func Union(a, b []api.Path) ([]api.Path, api.Errno) {
	return joined(a, b, func(inA, inB bool) bool { return true })
}

// Meet has what both have.
func Meet(a, b []api.Path) ([]api.Path, api.Errno) {
	return joined(a, b, func(inA, inB bool) bool { return inA && inB })
}

// Minus has what a has and b lacks.
func Minus(a, b []api.Path) ([]api.Path, api.Errno) {
	return joined(a, b, lacking)
}

// Within tells whether b has all of a.
func Within(a, b []api.Path) (bool, api.Errno) {
	if e := checkBoth(a, b); e != api.OK {
		return false, e
	}
	for range walk(a, b, lacking) {
		return false, api.OK
	}
	return true, api.OK
}

// lacking takes what stands in the way of a's being within b.
func lacking(inA, inB bool) bool { return inA && !inB }

func checkBoth(a, b []api.Path) api.Errno {
	if e := Check(a); e != api.OK {
		return e
	}
	return Check(b)
}

func joined(a, b []api.Path, take func(inA, inB bool) bool) ([]api.Path, api.Errno) {
	if e := checkBoth(a, b); e != api.OK {
		return nil, e
	}
	return copied(walk(a, b, take)), api.OK
}

// walk goes over two sets at once and gives, rising, the paths that take takes, by which of the two have them.
func walk(a, b []api.Path, take func(inA, inB bool) bool) iter.Seq[api.Path] {
	return func(yield func(api.Path) bool) {
		for i, k := 0, 0; i < len(a) || k < len(b); {
			var p api.Path
			c := first(a[i:], b[k:])
			if c <= 0 {
				p, i = a[i], i+1
			}
			if c >= 0 {
				p, k = b[k], k+1
			}
			if take(c <= 0, c >= 0) && !yield(p) {
				return
			}
		}
	}
}

// first tells which of two sets, of which one at least is not empty, has the path that comes next: -1 the one, 1 the other, 0 both.
func first(a, b []api.Path) int {
	switch {
	case len(b) == 0:
		return -1
	case len(a) == 0:
		return 1
	}
	return checked.Order(a[0], b[0])
}

// copied lists paths, each in memory of its own.
func copied(paths iter.Seq[api.Path]) []api.Path {
	var l []api.Path
	for p := range paths {
		l = append(l, checked.Copy(p))
	}
	return l
}
