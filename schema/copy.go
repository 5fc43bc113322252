package schema

import "freehold/api"

// A copy must end, whatever stands in an enum that Check was not asked about: a value there may lie within itself, or hold one thing many times over. What lies deeper in it than so many levels, or would be more than so many values, is left out.
const (
	mostLevels = 1 << 16
	mostValues = 1 << 20
)

// answer is a type in memory of its own; or the error, and no type.
func answer(t api.Type, e api.Errno) (api.Type, api.Errno) {
	if e != api.OK {
		return api.Type{}, e
	}
	t.Fields = append([]api.Field(nil), t.Fields...)
	t.Keys = append([]string(nil), t.Keys...)
	c := copier{left: mostValues}
	var enum []api.Value
	for _, x := range t.Enum {
		enum = append(enum, c.value(x, mostLevels))
	}
	t.Enum = enum
	return t, api.OK
}

// copier copies values as they stand, be they good or not.
type copier struct{ left int }

func (c *copier) value(v api.Value, levels int) api.Value {
	v.List, v.Map = c.list(v.List, levels-1), c.members(v.Map, levels-1)
	return v
}

func (c *copier) list(l []api.Value, levels int) []api.Value {
	if !c.room(len(l), levels) {
		return nil
	}
	to := make([]api.Value, len(l))
	for i, x := range l {
		to[i] = c.value(x, levels)
	}
	return to
}

func (c *copier) members(l []api.Member, levels int) []api.Member {
	if !c.room(len(l), levels) {
		return nil
	}
	to := make([]api.Member, len(l))
	for i, x := range l {
		to[i] = api.Member{Key: x.Key, Val: c.value(x.Val, levels)}
	}
	return to
}

// room tells whether there are values to be copied, and may be.
func (c *copier) room(n, levels int) bool {
	if n == 0 || n > c.left || levels < 0 {
		return false
	}
	c.left -= n
	return true
}
