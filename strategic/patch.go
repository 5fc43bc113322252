package strategic

import (
	"strings"

	"freehold/api"
	"freehold/value"
)

func (leaf) patch(_ content, p api.Value) content { return plain(p) }

func (h holder) patch(c content, p api.Value) content {
	if p.Kind != api.Map {
		return plain(p)
	}
	m := membersOf(c)
	switch word(p) {
	case wordDelete:
		return nil
	case wordReplace:
		m = &members{}
		h.merge(m, p.Map)
	default:
		h.merge(m, p.Map)
		takeItems(m, p.Map)
	}
	return m
}

// merge carries out the members of a patch that are no directives.
func (h holder) merge(m *members, l []api.Member) {
	for _, x := range l {
		below, known := h.below(x.Key)
		switch {
		case !inReach(x.Key):
		case x.Val.Kind == api.Null:
			m.put(x.Key, nil)
		case !known:
			m.put(x.Key, plain(x.Val))
		default:
			m.put(x.Key, below.patch(m.get(x.Key), x.Val))
		}
	}
}

// takeItems carries out what a patch says of items that go from sets.
func takeItems(m *members, l []api.Member) {
	for _, x := range l {
		name, cut := strings.CutPrefix(x.Key, deleteKey)
		if !cut {
			continue
		}
		r, is := rowOf(m.get(name), itself)
		if !is {
			continue
		}
		for _, y := range x.Val.List {
			r.drop(itself(plain(y)))
		}
		m.put(name, r)
	}
}

// itself names an item of a set.
func itself(c content) string { return string(sign(nil, c.value())) }

func (s set) patch(c content, p api.Value) content {
	if p.Kind != api.List {
		return plain(p)
	}
	items, directives := s.split(p.List)
	if len(directives) > 0 {
		return plain(api.Value{Kind: api.List, List: items})
	}
	r, _ := rowOf(c, itself)
	for _, x := range items {
		if r.first(itself(plain(x))) == nil {
			r.push(plain(x))
		}
	}
	return r
}

func (k keyed) patch(c content, p api.Value) content {
	elements, directives, read := k.split(p)
	if !read {
		return plain(p)
	}
	if len(directives) > 0 {
		return k.anew(elements)
	}
	r, _ := rowOf(c, k.name)
	for _, x := range elements {
		name := k.name(plain(x))
		r.put(name, k.elem.patch(r.first(name), x))
	}
	return r
}

// anew is the row of elements where nothing was: none of them is held against another.
func (k keyed) anew(elements []api.Value) content {
	r, _ := rowOf(nil, k.name)
	for _, x := range elements {
		r.push(k.elem.patch(nil, x))
	}
	return r
}

// name is what tells an element from others: its key fields. What has not all of them, with scalars, has none.
func (k keyed) name(c content) string {
	var b []byte
	m := membersOf(c)
	for _, key := range k.keys {
		x, is := m.get(key).(plain)
		if !is || !value.Scalar(api.Value(x)) {
			return ""
		}
		b = sign(b, api.Value(x))
	}
	return string(b)
}
