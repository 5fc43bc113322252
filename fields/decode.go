package fields

import (
	"slices"

	"freehold/api"
	"freehold/checked"
	"freehold/path"
)

// reading is the set as far as it was read, rising.
type reading struct{ set []api.Path }

// at reads the value at a path, and tells whether it can be one.
func (r *reading) at(p api.Path, v api.Value) bool {
	if v.Kind != api.Map {
		return false
	}
	in, rest, ok := cutSelf(v.Map)
	l, known := branches(rest)
	alone := len(p) > 0 && len(l) == 0 // the empty map says so, and nothing else may
	if !ok || !known || in && alone {
		return false
	}
	if in || alone {
		r.set = append(r.set, checked.Copy(p))
	}
	for _, b := range l {
		if !r.at(append(p, b.elem), b.val) {
			return false
		}
	}
	return true
}

// cutSelf tells whether a map has the key self, what else it has, and whether the key has the value that it must have. Ahead of that key stands the text of no element.
func cutSelf(l []api.Member) (in bool, rest []api.Member, ok bool) {
	if len(l) == 0 || l[0].Key != self {
		return false, l, true
	}
	v := l[0].Val
	return true, l[1:], v.Kind == api.Map && len(v.Map) == 0
}

// branch is an element that leads on, and the value behind it.
type branch struct {
	elem api.Elem
	val  api.Value
}

// branches reads the members of a map, and puts them into the order of their elements, which is not that of their texts; false, if a key is the text of none.
func branches(members []api.Member) ([]branch, bool) {
	var l []branch
	for _, m := range members {
		p, _, e := path.Parse(m.Key)
		if e != api.OK || len(p) != 1 {
			return nil, false
		}
		l = append(l, branch{p[0], m.Val})
	}
	slices.SortFunc(l, func(a, b branch) int { return checked.OrderElems(a.elem, b.elem) })
	return l, true
}
