package update

import (
	"freehold/api"
	"freehold/managers"
	"freehold/pathset"
)

// owners is the entries behind a writer. What the writer gets comes last: by then no other entry will go, so entries that are too many are so for good.
func owners(l []api.Entry, manager string, d api.Change) ([]api.Entry, api.Errno) {
	lost := union(d.Changed, d.Removed)
	kept := keeping(l, func(x api.Entry) []api.Path {
		if x.Manager == manager && x.Way == api.ByUpdate {
			return minus(x.Fields, d.Removed)
		}
		return minus(x.Fields, lost)
	})
	has := union(managers.Get(kept, manager, api.ByUpdate), d.Added, d.Changed)
	return managers.With(kept, manager, api.ByUpdate, has)
}

// keeping is entries, each with what it keeps; one that keeps nothing is none.
func keeping(l []api.Entry, keeps func(x api.Entry) []api.Path) []api.Entry {
	var to []api.Entry
	for _, x := range l {
		if x.Fields = keeps(x); len(x.Fields) > 0 {
			to = append(to, x)
		}
	}
	return to
}

// The sets that are joined here come from leaves, or were asked as entries: there is no fault to tell.

func union(sets ...[]api.Path) []api.Path {
	var all []api.Path
	for _, l := range sets {
		all, _ = pathset.Union(all, l)
	}
	return all
}

func minus(a, b []api.Path) []api.Path {
	l, _ := pathset.Minus(a, b)
	return l
}
