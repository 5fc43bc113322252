package mergepatch

import (
	"iter"

	"freehold/api"
)

// patched is t changed as p says.
func patched(t, p api.Value) api.Value {
	if p.Kind != api.Map {
		return p
	}
	v := api.Value{Kind: api.Map}
	for key, x := range together(t.Map, p.Map) { // a t that is no map has no members
		switch {
		case !x.second:
			v.Map = append(v.Map, api.Member{Key: key, Val: x.a})
		case x.b.Kind != api.Null:
			v.Map = append(v.Map, api.Member{Key: key, Val: patched(x.a, x.b)})
		}
	}
	return v
}

// pair is what two maps have for one key; null, where a map does not have it.
type pair struct {
	a, b          api.Value
	first, second bool // which of the maps have the key
}

// together goes through the members of two maps, each key once, rising.
func together(a, b []api.Member) iter.Seq2[string, pair] {
	return func(yield func(string, pair) bool) {
		for i, k := 0, 0; i < len(a) || k < len(b); {
			var key string
			var x pair
			if k == len(b) || i < len(a) && a[i].Key <= b[k].Key {
				key, x.a, x.first = a[i].Key, a[i].Val, true
			}
			if i == len(a) || k < len(b) && b[k].Key <= a[i].Key {
				key, x.b, x.second = b[k].Key, b[k].Val, true
			}
			if x.first {
				i++
			}
			if x.second {
				k++
			}
			if !yield(key, x) {
				return
			}
		}
	}
}
