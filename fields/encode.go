package fields

import (
	"slices"
	"strings"

	"freehold/api"
	"freehold/checked"
)

// naming is a way to tell a path as a text. The keys of a value are asked through it.
type naming func(p api.Path) (string, api.Errno)

// key is the key of an element. The element is one of a path that was checked: there is no fault to tell.
func (name naming) key(e api.Elem) string {
	text, _ := name(api.Path{e})
	return text
}

// member is what a map says of the paths of one part.
func (name naming) member(part []api.Path, depth int) api.Member {
	return api.Member{Key: name.key(part[0][depth]), Val: valueAt(part, depth+1, name)}
}

// valueAt is the value at a path of so many elements: one with which all paths of the set begin.
func valueAt(l []api.Path, depth int, name naming) api.Value {
	var m []api.Member
	if len(l) > 0 && len(l[0]) == depth { // it is in the set: it stands ahead of what lies below it
		l = l[1:]
		if len(l) > 0 || depth == 0 {
			m = append(m, api.Member{Key: self, Val: api.Value{Kind: api.Map}})
		}
	}
	for part := range checked.Parts(l, depth, func(p api.Path) api.Path { return p }) {
		m = append(m, name.member(part, depth))
	}
	slices.SortFunc(m, func(a, b api.Member) int { return strings.Compare(a.Key, b.Key) }) // texts are ordered otherwise than elements
	return api.Value{Kind: api.Map, Map: m}
}
