package strategic

import (
	"maps"
	"slices"
	"strconv"

	"freehold/api"
)

// content is what stands somewhere while a patch is carried out; nil is nothing. A patch may come to one place over and over (a keyed list's has an element's keys twice): what was opened there stays open, so that each time costs no more than that patch is long.
type content interface {
	value() api.Value
}

// The contents.
type (
	// plain is a value as it stands.
	plain api.Value

	// members is a map that was opened.
	members struct {
		was []api.Member
		now map[string]content // what was put in since, nil where something was taken away
	}

	// row is a list that was opened. What goes leaves a gap behind: so the others stay where they are.
	row struct {
		name  func(c content) string // by what a part is found; a part without a name is not
		parts []content
		at    map[string][]int // the places of the parts of a name, rising
	}
)

func (p plain) value() api.Value { return api.Value(p) }

// value puts what was there and what was put in together, rising.
func (m *members) value() api.Value {
	var l []api.Member
	was := m.was
	for _, key := range slices.Sorted(maps.Keys(m.now)) {
		for len(was) > 0 && was[0].Key < key {
			l, was = append(l, was[0]), was[1:]
		}
		if len(was) > 0 && was[0].Key == key {
			was = was[1:]
		}
		if c := m.now[key]; c != nil {
			l = append(l, api.Member{Key: key, Val: c.value()})
		}
	}
	return api.Value{Kind: api.Map, Map: append(l, was...)}
}

func (r *row) value() api.Value {
	var l []api.Value
	for _, c := range r.parts {
		if c != nil {
			l = append(l, c.value())
		}
	}
	return api.Value{Kind: api.List, List: l}
}

// membersOf opens a map; what is none counts as the empty one.
func membersOf(c content) *members {
	switch x := c.(type) {
	case *members:
		return x
	case plain:
		return &members{was: x.Map}
	}
	return &members{}
}

func (m *members) get(key string) content {
	if c, there := m.now[key]; there {
		return c
	}
	if x, there := find(m.was, key); there {
		return plain(x)
	}
	return nil
}

func (m *members) put(key string, c content) {
	if m.now == nil {
		m.now = map[string]content{}
	}
	m.now[key] = c
}

// rowOf opens a list; what is none counts as the empty one, and false is told.
func rowOf(c content, name func(c content) string) (*row, bool) {
	r := &row{name: name, at: map[string][]int{}}
	switch x := c.(type) {
	case *row:
		return x, true
	case plain:
		for _, y := range x.List {
			r.push(plain(y))
		}
		return r, x.Kind == api.List
	}
	return r, false
}

// push puts something in behind the others.
func (r *row) push(c content) {
	if name := r.name(c); name != "" {
		r.at[name] = append(r.at[name], len(r.parts))
	}
	r.parts = append(r.parts, c)
}

// first is the first part of a name; nil, if there is none.
func (r *row) first(name string) content {
	if l := r.at[name]; len(l) > 0 {
		return r.parts[l[0]]
	}
	return nil
}

// put puts something in the place of the first part of a name, or behind the others, if there is none. What is put in has that name, or none.
func (r *row) put(name string, c content) {
	l := r.at[name]
	if len(l) == 0 {
		r.push(c)
		return
	}
	r.parts[l[0]] = c
	if r.name(c) != name {
		r.at[name] = l[1:]
	}
}

// drop takes away all parts of a name.
func (r *row) drop(name string) {
	for _, i := range r.at[name] {
		r.parts[i] = nil
	}
	delete(r.at, name)
}

// sign writes a good value so that none other is written alike, nor begins alike.
func sign(b []byte, v api.Value) []byte {
	n := v.Int + len(v.Str) + len(v.List) + len(v.Map) // no kind uses two of them
	if v.Bool {
		n = 1
	}
	b = append(strconv.AppendInt(append(b, byte('0'+v.Kind)), int64(n), 10), ';')
	b = append(b, v.Str...)
	for _, x := range v.List {
		b = sign(b, x)
	}
	for _, m := range v.Map {
		b = sign(sign(b, text(m.Key)), m.Val)
	}
	return b
}
