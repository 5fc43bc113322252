package leaves

import (
	"slices"
	"strings"

	"freehold/api"
	"freehold/checked"
	"freehold/path"
	"freehold/schema"
	"freehold/validate"
	"freehold/value"
)

// hindered is the place of the first leaf that hinders leaves from being a value's; below 0: there is none. A leaf hinders by what stands ahead of it: what comes behind, if it rises, can't mend it.
func hindered(root place, l []api.Leaf) int {
	if len(l) == 0 && schema.Leaf(root.typ) {
		return 0
	}
	r := reader{trail: []place{root}, parts: map[string]api.Schema{}}
	for i, x := range l {
		if path.Check(x.Path) != api.OK || i > 0 && checked.Order(r.last, x.Path) >= 0 || !r.enter(x.Path) || !r.fits(x) {
			return i
		}
	}
	return -1
}

// reader goes from leaf to leaf, and looks anew only at that of a path which the one ahead of it did not have.
type reader struct {
	last  api.Path
	trail []place               // those along the last path, the root first
	parts map[string]api.Schema // by the name of an atomic type
}

// enter goes to a path that is behind the last one; false, if it leads nowhere, or past an element that is not there. One that is there is on the way to the last path, or at its end.
func (r *reader) enter(p api.Path) bool {
	shared := common(r.last, p)
	r.last, r.trail = p, r.trail[:shared+1]
	for i := shared; i < len(p); i++ {
		next, ok := r.trail[i].below(p[i])
		if !ok || i > shared && p[i-1].Kind == api.ElemKey {
			return false
		}
		r.trail = append(r.trail, next)
	}
	return true
}

// common tells how many elements two paths begin with alike.
func common(p, q api.Path) int {
	n := 0
	for n < min(len(p), len(q)) && checked.OrderElems(p[n], q[n]) == 0 {
		n++
	}
	return n
}

// fits tells whether what was entered is a leaf, and the value one that it may have.
func (r *reader) fits(x api.Leaf) bool {
	if n := len(x.Path); n > 0 && x.Path[n-1].Kind != api.ElemField { // a member or an element, whose path tells all
		return x.Val.Kind == api.Null && value.Check(x.Val, 0) == api.OK
	}
	t := r.trail[len(x.Path)].typ
	return schema.Is(t, x.Val) || schema.Leaf(t) && r.isNormal(t.Name, x.Val)
}

// isNormal asks validate, which looks at the schema anew each time, with no more of it than the type needs.
func (r *reader) isNormal(typ string, v api.Value) bool {
	s, known := r.parts[typ]
	if !known {
		s = needed(r.trail[0].schema, typ)
		r.parts[typ] = s
	}
	return validate.IsNormal(s, typ, v)
}

// needed is a schema's types to which a name leads, as a schema of their own.
func needed(s api.Schema, name string) api.Schema {
	met := make([]bool, len(s.Types))
	var follow func(name string)
	follow = func(name string) {
		i, there := slices.BinarySearchFunc(s.Types, name, func(t api.Type, name string) int { return strings.Compare(t.Name, name) })
		if !there || met[i] { // the three words are no types of the schema
			return
		}
		met[i] = true
		follow(s.Types[i].Elem)
		for _, f := range s.Types[i].Fields {
			follow(f.Type)
		}
	}
	follow(name)
	var part api.Schema
	for i, t := range s.Types {
		if met[i] {
			part.Types = append(part.Types, t)
		}
	}
	return part
}
