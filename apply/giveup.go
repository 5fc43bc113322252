package apply

import (
	"freehold/api"
	"freehold/leaves"
	"freehold/managers"
	"freehold/pathset"
)

// givenUp is the set of what the manager has by apply and says no more.
func (a applying) givenUp() []api.Path {
	had := managers.Get(a.entries, a.manager, api.ByApply)
	return minus(had, leaves.Paths(a.config))
}

// going is the set of the object's leaves that go: what is given up and nobody else holds, and what lies below that. The others are asked as they were, not as force leaves them: it takes paths of the config alone, and none of these is at or below what is given up, for with a leaf the config has the elements above it.
func (a applying) going() []api.Path {
	held := pathset.New()
	for _, x := range a.others() {
		for _, p := range x.Fields {
			held.Add(p)
		}
	}
	var tops []api.Path
	for _, p := range a.givenUp() {
		if !held.Any(p) {
			tops = append(tops, p)
		}
	}
	return minus(leaves.Paths(a.live), leaves.Paths(leaves.Drop(a.live, tops)))
}

// The sets that are joined here come from leaves, or were asked as entries: there is no fault to tell.

func minus(a, b []api.Path) []api.Path {
	l, _ := pathset.Minus(a, b)
	return l
}

func meet(a, b []api.Path) []api.Path {
	l, _ := pathset.Meet(a, b)
	return l
}
