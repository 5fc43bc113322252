package value

import (
	"slices"
	"strings"

	"freehold/api"
)

// Get answers a map's member.
func Get(v api.Value, key string) (api.Value, bool) {
	if !taken(v) {
		return api.Value{}, false
	}
	at, there := find(v.Map, key)
	if !there {
		return api.Value{}, false
	}
	return anew(v.Map[at].Val), true
}

// With is a map with a member set.
func With(v api.Value, key string, x api.Value) (api.Value, api.Errno) {
	if v.Kind != api.Map || !taken(v) || !taken(x) {
		return api.Value{}, api.ErrValue
	}
	at, there := find(v.Map, key)
	behind := at
	if there {
		behind++
	}
	return mapOf(slices.Concat(v.Map[:at], []api.Member{{Key: key, Val: x}}, v.Map[behind:]))
}

// Without is a map without a member.
func Without(v api.Value, key string) api.Value {
	if !taken(v) {
		return api.Value{}
	}
	at, there := find(v.Map, key)
	if there {
		v.Map = slices.Concat(v.Map[:at], v.Map[at+1:])
	}
	return anew(v)
}

// Build is the map of members in any order.
func Build(l ...api.Member) (api.Value, api.Errno) {
	for _, x := range l {
		if !taken(x.Val) {
			return api.Value{}, api.ErrValue
		}
	}
	l = slices.Clone(l)
	slices.SortFunc(l, func(a, b api.Member) int { return strings.Compare(a.Key, b.Key) })
	return mapOf(l)
}

// find answers where a key stands among rising ones, or would stand; a value that is no map has no members, and so no key.
func find(l []api.Member, key string) (int, bool) {
	return slices.BinarySearchFunc(l, key, func(x api.Member, key string) int { return strings.Compare(x.Key, key) })
}

// mapOf is the map of members in their order, whose values are taken. A key that is no UTF-8 or stands twice needs no look ahead of Check: it is a fault of the map itself, which Check meets first of all, and ahead of too many bytes.
func mapOf(l []api.Member) (api.Value, api.Errno) {
	m := api.Value{Kind: api.Map, Map: l}
	if e := Check(m, api.DeepRecord); e != api.OK {
		return api.Value{}, e
	}
	return anew(m), api.OK
}
