package mergepatch

import (
	"errors"

	"freehold/api"
	"freehold/value"
)

// errNoPatch is what the search gives up with, from however deep inside.
var errNoPatch = errors.New("no merge patch leads there")

// between is the patch that leads from a to b. It panics with errNoPatch, if there is none.
func between(a, b api.Value) api.Value {
	switch {
	case a.Kind == api.Map && b.Kind == api.Map:
		return betweenMaps(a.Map, b.Map)
	case b.Kind == api.Null: // a whole patch that is null puts null in; as a member it would take away
		return b
	}
	return putIn(b)
}

func betweenMaps(a, b []api.Member) api.Value {
	p := api.Value{Kind: api.Map}
	for key, x := range together(a, b) {
		var step api.Value
		switch {
		case !x.second: // null takes away
		case x.a.Kind == api.Map && x.b.Kind == api.Map:
			// That two maps are the same is known by a patch that says nothing: to compare them first would be to go through them once more at each level.
			step = betweenMaps(x.a.Map, x.b.Map)
			if len(step.Map) == 0 {
				continue
			}
		case x.first && value.Equal(x.a, x.b):
			continue
		default:
			step = putIn(x.b)
		}
		p.Map = append(p.Map, api.Member{Key: key, Val: step})
	}
	return p
}

// putIn is the patch of a member by which v comes to stand where no map is, or nothing: v itself, if it is clean.
func putIn(v api.Value) api.Value {
	if !clean(v) {
		panic(errNoPatch)
	}
	return v
}

// clean tells whether neither a value is null nor any of its members, as far down as maps lead.
func clean(v api.Value) bool {
	if v.Kind == api.Null {
		return false
	}
	for _, x := range v.Map {
		if !clean(x.Val) {
			return false
		}
	}
	return true
}
