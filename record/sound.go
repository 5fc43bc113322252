package record

import (
	"freehold/api"
	"freehold/leaves"
	"freehold/managers"
	"freehold/pathset"
	"freehold/schema"
)

// sound lists the paths of the leaves of a sound object, or tells what is wrong with it first; the order of its questions is that of the errors.
func sound(s api.Schema, typ string, o api.Object) ([]api.Path, error) {
	if err := metIn(partSchema, schema.Check(s)); err != nil {
		return nil, err
	}
	_, e := schema.Means(s, typ)
	if err := metIn(partType, e); err != nil {
		return nil, err
	}
	if err := metIn(partEntries, managers.Check(o.Entries)); err != nil {
		return nil, err
	}
	l, e := leaves.Of(s, typ, o.Value)
	if err := metIn(partValue, e); err != nil {
		return nil, err
	}
	all := leaves.Paths(l)
	for _, x := range o.Entries {
		if err := fits(all, x); err != nil {
			return nil, met{in: partEntries, err: err}
		}
	}
	return all, nil
}

// fits asks an entry that may be by the leaves of the object's value.
func fits(all []api.Path, x api.Entry) error {
	if !within(x.Fields, all) {
		return errOwned
	}
	if x.Way == api.ByApply && !within(elements(x.Fields), x.Fields) {
		return errAbove
	}
	return nil
}

// within tells whether all of one set is in another one. Both were asked: there is no fault to tell.
func within(some, all []api.Path) bool {
	is, _ := pathset.Within(some, all)
	return is
}

// elements is the set of the nearest elements above some leaves. Those further up are nearest to these in turn: who has all of these among the leaves lacks none.
func elements(l []api.Path) []api.Path {
	var above []api.Path
	for _, p := range l {
		if n := elementAbove(p); n > 0 {
			above = append(above, p[:n])
		}
	}
	set, _ := pathset.Of(above) // they are beginnings of paths, so there is no fault to tell
	return set
}

// elementAbove is how long the longest beginning of a path is that leads to an element of a keyed list and is not the path itself; 0, if there is none.
func elementAbove(p api.Path) int {
	for n := len(p) - 1; n > 0; n-- {
		if p[n-1].Kind == api.ElemKey {
			return n
		}
	}
	return 0
}
