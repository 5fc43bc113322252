package request

import (
	"cmp"
	"slices"
	"strings"

	"freehold/api"
	"freehold/checked"
	"freehold/managers"
)

// mayBe tells whether an answer may tell conflicts: some, in their order, each once, and as entries that may be. The entries are asked first: of what are no paths there is no order.
func mayBe(l []api.Conflict) bool {
	if len(l) == 0 || managers.Check(entriesOf(l)) != api.OK {
		return false
	}
	for i := 1; i < len(l); i++ {
		if order(l[i-1], l[i]) >= 0 {
			return false
		}
	}
	return true
}

// order tells which of two conflicts stands first.
func order(a, b api.Conflict) int {
	return cmp.Or(checked.Order(a.Path, b.Path), orderNames(a, b))
}

// orderNames asks only with whom two conflicts are.
func orderNames(a, b api.Conflict) int {
	return cmp.Or(strings.Compare(a.Manager, b.Manager), cmp.Compare(a.Way, b.Way))
}

// entriesOf gathers the paths of conflicts by whom they are with. They rise there, if the conflicts do.
func entriesOf(l []api.Conflict) []api.Entry {
	l = slices.Clone(l)
	slices.SortStableFunc(l, orderNames)
	var entries []api.Entry
	for i, c := range l {
		if i == 0 || orderNames(l[i-1], c) != 0 {
			entries = append(entries, api.Entry{Manager: c.Manager, Way: c.Way})
		}
		x := &entries[len(entries)-1]
		x.Fields = append(x.Fields, c.Path)
	}
	return entries
}

// conflictsOf is the conflicts that are told as some entries.
func conflictsOf(entries []api.Entry) []api.Conflict {
	var l []api.Conflict
	for _, x := range entries {
		for _, p := range x.Fields {
			l = append(l, api.Conflict{Manager: x.Manager, Way: x.Way, Path: p})
		}
	}
	slices.SortFunc(l, order)
	return l
}
