package selector

import (
	"maps"
	"slices"

	"freehold/api"
)

// Simplify is the fewest terms that choose the same; false: they choose nothing.
func Simplify(l []api.Term) ([]api.Term, bool) {
	if !isSelector(l) {
		return nil, false
	}
	by := map[string]demand{}
	for _, t := range l {
		by[t.Key] = by[t.Key].and(t)
	}
	var out []api.Term
	for _, key := range slices.Sorted(maps.Keys(by)) {
		d := by[key].settled()
		if !d.canBe() {
			return nil, false
		}
		out = d.tell(out, key)
	}
	return out, true
}

// demand is what must hold of a key; the zero demand holds always.
type demand struct {
	has, hasNot bool
	in          bool     // the value must be one of some
	some        []string // these, rising
	none        []string // the values that must not be
}

// and is a demand with one term more.
func (d demand) and(t api.Term) demand {
	switch t.Op {
	case api.Has:
		d.has = true
	case api.HasNot:
		d.hasNot = true
	case api.In:
		d.some = d.common(t.Vals)
		d.in = true
	case api.NotIn:
		d.none = append(d.none, t.Vals...) // sorted once, when all are there: there can be many terms of one value
	}
	return d
}

// common is which of some values a demand's Ins let through.
func (d demand) common(vals []string) []string {
	if !d.in {
		return slices.Clone(vals)
	}
	return picked(d.some, func(s string) bool { return has(vals, s) })
}

// settled is a demand to which no term comes any more: the values that must not be are rising, each once, and are none of those that may be.
func (d demand) settled() demand {
	slices.Sort(d.none)
	d.none = slices.Compact(d.none)
	d.some = picked(d.some, func(s string) bool { return !has(d.none, s) })
	return d
}

// canBe tells whether there are labels of which a settled demand holds. Has and NotIn alone never rule all values out, since there are always more of them.
func (d demand) canBe() bool {
	if d.hasNot {
		return !d.has && !d.in
	}
	return !d.in || len(d.some) > 0
}

// tell puts the terms of a settled demand behind others.
func (d demand) tell(out []api.Term, key string) []api.Term {
	switch {
	case d.hasNot:
		return append(out, api.Term{Key: key, Op: api.HasNot})
	case d.in:
		return append(out, api.Term{Key: key, Op: api.In, Vals: d.some})
	}
	if d.has {
		out = append(out, api.Term{Key: key, Op: api.Has})
	}
	if len(d.none) > 0 {
		out = append(out, api.Term{Key: key, Op: api.NotIn, Vals: d.none})
	}
	return out
}

// picked is a new list of those that a test lets through.
func picked(l []string, let func(s string) bool) []string {
	var out []string
	for _, s := range l {
		if let(s) {
			out = append(out, s)
		}
	}
	return out
}
