package managers

import (
	"cmp"
	"strings"
	"unicode/utf8"

	"freehold/api"
	"freehold/pathset"
)

// order tells which of two entries stands first: by their managers, then by their ways, which are numbered as they are ordered; 0, if they are of one name.
func order(a, b api.Entry) int {
	return cmp.Or(strings.Compare(a.Manager, b.Manager), cmp.Compare(a.Way, b.Way))
}

// mayBe is what is wrong first with entries, and where.
func mayBe(l []api.Entry) error {
	for i, x := range l {
		if err := fits(l[:i], x); err != nil {
			return placed{entry: i, err: err}
		}
	}
	if len(l) > api.MaxManagers {
		return placed{entry: api.MaxManagers, err: fault(api.ErrManagers)}
	}
	return nil
}

// fits asks one entry behind those ahead of it; the order of its questions is that of the errors.
func fits(ahead []api.Entry, x api.Entry) error {
	if err := named(x.Manager, x.Way); err != nil {
		return err
	}
	if len(x.Fields) == 0 || len(ahead) > 0 && order(ahead[len(ahead)-1], x) >= 0 {
		return fault(api.ErrEntries)
	}
	if err := asError(pathset.Check(x.Fields)); err != nil {
		return err
	}
	if len(ahead) > 0 && share(ahead[len(ahead)-1], x) { // of one manager there are two at the most, side by side
		return fault(api.ErrEntries)
	}
	return nil
}

// named asks what an entry is called by.
func named(manager string, way int) error {
	if len(manager) < 1 || len(manager) > api.MaxName || !utf8.ValidString(manager) {
		return fault(api.ErrName)
	}
	if way != api.ByApply && way != api.ByUpdate {
		return fault(api.ErrEntries)
	}
	return nil
}

// share tells whether two entries are of one manager and have a path in common.
func share(a, b api.Entry) bool {
	if a.Manager != b.Manager {
		return false
	}
	both, _ := pathset.Meet(a.Fields, b.Fields) // both were asked: there is no fault to tell
	return len(both) > 0
}
