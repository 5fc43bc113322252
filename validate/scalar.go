package validate

import (
	"cmp"
	"slices"
	"strings"

	"freehold/api"
)

// scalar is a bool, an integer or a string as something that can be a map's key, and be held against others of its type: so it need not say of which kind it is. (Package value compares all values, but looks them through each time.)
type scalar struct {
	num  int
	text string
}

func scalarOf(v api.Value) scalar {
	s := scalar{num: v.Int, text: v.Str}
	if v.Bool {
		s.num = 1
	}
	return s
}

// order is the page's order of scalars of one type.
func order(a, b scalar) int {
	return cmp.Or(cmp.Compare(a.num, b.num), strings.Compare(a.text, b.text))
}

// inEnum tells whether a scalar may be, as far as its type's enum says.
func inEnum(t api.Type, v api.Value) bool {
	if len(t.Enum) == 0 {
		return true
	}
	_, there := slices.BinarySearchFunc(t.Enum, scalarOf(v), func(x api.Value, s scalar) int { return order(scalarOf(x), s) })
	return there
}

// identity is what tells an element of a set or of a keyed list from the others: its own value, or those of its key fields in the order of their names.
func identity(t api.Type, v api.Value) []scalar {
	if t.Rel == api.Set {
		return []scalar{scalarOf(v)}
	}
	l := make([]scalar, len(t.Keys))
	for i, key := range t.Keys {
		l[i] = scalarOf(member(v, key))
	}
	return l
}

// link is a row of scalars: a shorter row, by its number, and what stands behind that.
type link struct {
	ahead int
	last  scalar
}

// met has the identities that were met in a list, and how they begin, each with a number of its own; the empty row's is 0.
type met map[link]int

// add puts an identity in; false, if it was met. (Those of one list are equally long, so none is the beginning of another.)
func (m met) add(row []scalar) bool {
	at, fresh := 0, false
	for _, s := range row {
		next := link{ahead: at, last: s}
		n, there := m[next]
		if !there {
			n = len(m) + 1
			m[next] = n
		}
		at, fresh = n, !there
	}
	return fresh
}
