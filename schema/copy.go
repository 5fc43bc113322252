package schema

import "freehold/api"

// The page's bound. Within it a type is told whole, whatever stands in an enum that Check was not asked about; beyond it nothing is promised, but that a call ends.
const (
	mostItems  = 1<<31 - 1
	mostLevels = 1 << 16
)

// answer is a type in memory of its own; or the error, and no type.
func answer(t api.Type, e api.Errno) (api.Type, api.Errno) {
	if e != api.OK {
		return api.Type{}, e
	}
	t.Fields = append([]api.Field(nil), t.Fields...)
	t.Keys = append([]string(nil), t.Keys...)
	t.Enum = copyEnum(t.Enum)
	return t, api.OK
}

// copyEnum copies values as they stand, be they good or not. Where they are too many to be copied, what they hold is left out.
func copyEnum(from []api.Value) []api.Value {
	to := append([]api.Value(nil), from...)
	if c := (counter{known: map[place]int{}}); !c.within(api.Value{List: from}) {
		for i := range to {
			to[i].List, to[i].Map = nil, nil
		}
		return to
	}
	renew(to)
	return to
}

// renew gives values lists of their own, all the way down. It keeps a pile of those that are still to be looked at, since values may lie in one another deeper than functions may call each other.
func renew(l []api.Value) {
	var pile []*api.Value
	for i := range l {
		pile = append(pile, &l[i])
	}
	for len(pile) > 0 {
		v := pile[len(pile)-1]
		pile = pile[:len(pile)-1]
		v.List = append([]api.Value(nil), v.List...)
		v.Map = append([]api.Member(nil), v.Map...)
		for i := range v.List {
			pile = append(pile, &v.List[i])
		}
		for i := range v.Map {
			pile = append(pile, &v.Map[i].Val)
		}
	}
}

// place tells which lists a value holds: the same place holds the same values.
type place struct {
	first   *api.Value
	values  int
	member  *api.Member
	members int
}

func placeOf(v api.Value) place {
	p := place{values: len(v.List), members: len(v.Map)}
	if p.values > 0 {
		p.first = &v.List[0]
	}
	if p.members > 0 {
		p.member = &v.Map[0]
	}
	return p
}

// counter counts the values that a copy would have. It goes through each place once: a list may hold one thing so many times over that nobody could go through it each time.
type counter struct{ known map[place]int }

// within tells whether a value may be copied.
func (c counter) within(v api.Value) bool {
	_, ok := c.count(v, 0)
	return ok
}

// count is the number of values in a value, itself among them; false: they are too many, or too deep in one another, as they are where a value lies within itself.
func (c counter) count(v api.Value, level int) (int, bool) {
	if len(v.List) == 0 && len(v.Map) == 0 {
		return 1, true
	}
	at := placeOf(v)
	if n, ok := c.known[at]; ok {
		return n, true
	}
	if level >= mostLevels {
		return 0, false
	}
	n := 1
	for i := range len(v.List) + len(v.Map) {
		more, ok := c.count(part(v, i), level+1)
		if !ok || more > mostItems-n {
			return 0, false
		}
		n += more
	}
	c.known[at] = n
	return n, true
}

// part is one of the values that a value holds: those of its list, then those of its map.
func part(v api.Value, i int) api.Value {
	if i < len(v.List) {
		return v.List[i]
	}
	return v.Map[i-len(v.List)].Val
}
