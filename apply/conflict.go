package apply

import (
	"cmp"
	"slices"
	"strings"

	"freehold/api"
	"freehold/checked"
	"freehold/leaves"
	"freehold/value"
)

// unlike is the set of paths at which object and config have unlike values. Members and elements have none, so they are never unlike.
func (a applying) unlike() []api.Path {
	var l []api.Path
	for _, x := range a.config {
		was, there := leaves.Get(a.live, x.Path)
		if there && !value.Equal(was, x.Val) {
			l = append(l, x.Path)
		}
	}
	return l
}

// conflicts lists who else has a path at which the config would change the value.
func (a applying) conflicts() []api.Conflict {
	unlike := a.unlike()
	var l []api.Conflict
	for _, x := range a.others() {
		for _, p := range meet(x.Fields, unlike) {
			l = append(l, api.Conflict{Manager: x.Manager, Way: x.Way, Path: p})
		}
	}
	slices.SortFunc(l, func(x, y api.Conflict) int {
		return cmp.Or(checked.Order(x.Path, y.Path), strings.Compare(x.Manager, y.Manager), cmp.Compare(x.Way, y.Way))
	})
	return l
}

// others lists the entries of other managers.
func (a applying) others() []api.Entry {
	var l []api.Entry
	for _, x := range a.entries {
		if x.Manager != a.manager {
			l = append(l, x)
		}
	}
	return l
}
