package strategic

import (
	"slices"
	"strings"

	"freehold/api"
	"freehold/value"
)

// What directives are written with.
const (
	patchKey  = "$patch"
	deleteKey = "$delete/" // and a name behind it

	wordMerge   = "merge"
	wordReplace = "replace"
	wordDelete  = "delete"
)

// inReach tells whether a member of that key can be patched: others are directives.
func inReach(key string) bool { return key != patchKey && !strings.HasPrefix(key, deleteKey) }

// text is a string as a value.
func text(s string) api.Value { return api.Value{Kind: api.Str, Str: s} }

// byKey is the order of members.
func byKey(x, y api.Member) int { return strings.Compare(x.Key, y.Key) }

// find is a rising list's member of a key.
func find(l []api.Member, key string) (api.Value, bool) {
	i, there := slices.BinarySearchFunc(l, api.Member{Key: key}, byKey)
	if !there {
		return api.Value{}, false
	}
	return l[i].Val, true
}

// word is what a map's $patch says; without one it says to merge.
func word(p api.Value) string {
	x, there := find(p.Map, patchKey)
	if !there {
		return wordMerge
	}
	return x.Str
}

// takes: nothing is read.
func (leaf) takes(api.Value) bool { return true }

func (h holder) takes(p api.Value) bool {
	return p.Kind != api.Map || !slices.ContainsFunc(p.Map, func(m api.Member) bool { return !h.takesMember(p, m) })
}

// takesMember looks at one member of a patch.
func (h holder) takesMember(p api.Value, m api.Member) bool {
	if m.Key == patchKey {
		return h.takesWord(p, m.Val)
	}
	if name, cut := strings.CutPrefix(m.Key, deleteKey); cut {
		return h.takesDelete(name, m.Val)
	}
	below, known := h.below(m.Key)
	return !known || below.takes(m.Val) // of null no shape reads anything
}

// takesWord looks at the $patch of a patch.
func (h holder) takesWord(p, x api.Value) bool {
	switch {
	case x.Kind != api.Str:
		return false
	case x.Str == wordDelete:
		return !slices.ContainsFunc(p.Map, func(m api.Member) bool { return m.Key != patchKey && !slices.Contains(h.keys, m.Key) })
	}
	return x.Str == wordMerge || x.Str == wordReplace
}

// takesDelete looks at what is to go from the set at a name.
func (h holder) takesDelete(name string, x api.Value) bool {
	below, known := h.below(name)
	if !known || !inReach(name) || x.Kind != api.List {
		return false
	}
	switch below.(type) {
	case set:
		return !slices.ContainsFunc(x.List, func(y api.Value) bool { return !value.Scalar(y) })
	}
	return false
}

func (s set) takes(p api.Value) bool {
	if p.Kind != api.List {
		return true
	}
	_, directives := s.split(p.List)
	return takesDirectives(directives)
}

func (k keyed) takes(p api.Value) bool {
	elements, directives, read := k.split(p)
	return !read || takesDirectives(directives) && !slices.ContainsFunc(elements, func(x api.Value) bool { return !k.elem.takes(x) })
}

// takesDirectives looks at all that are a list's directives.
func takesDirectives(l []api.Value) bool {
	return len(l) == 0 || len(l) == 1 && len(l[0].Map) == 1 && word(l[0]) == wordReplace
}

// isDirective tells whether an element of a list is its directive, if it is none of its elements.
func isDirective(x api.Value) bool {
	_, there := find(x.Map, patchKey)
	return there
}

// split parts a list that patches a set from its directives.
func (set) split(l []api.Value) (items, directives []api.Value) {
	for _, x := range l {
		if isDirective(x) {
			directives = append(directives, x)
		} else {
			items = append(items, x)
		}
	}
	return items, directives
}

// split parts the elements of a patch for a keyed list from its directives; false, if it is no list of such.
func (k keyed) split(p api.Value) (elements, directives []api.Value, read bool) {
	for _, x := range p.List {
		switch {
		case k.name(plain(x)) != "":
			elements = append(elements, x)
		case isDirective(x):
			directives = append(directives, x)
		default:
			return nil, nil, false
		}
	}
	return elements, directives, p.Kind == api.List
}
