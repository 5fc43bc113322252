package feed

import "freehold/api"

// standing tells whether items may be what stood at a revision.
func standing(l []api.Item, rev int) bool {
	if rev < 0 || rev > api.MaxRevision {
		return false
	}
	for i, x := range l {
		if x.Rev < 1 || x.Rev > rev || i > 0 && l[i-1].Key >= x.Key {
			return false
		}
	}
	return true
}

// follows tells whether an event may come behind a revision.
func follows(e api.Event, rev int) bool {
	switch e.Kind {
	case api.Created, api.Swapped, api.Removed:
		return e.Rev > rev && e.Rev <= api.MaxRevision
	}
	return false
}
