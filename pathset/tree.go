package pathset

import (
	"freehold/api"
	"freehold/path"
)

// Tree is a set that changes.
type Tree struct {
	root  node
	count int
}

// New is a tree without paths.
func New() *Tree { return &Tree{} }

// Add puts a path in: was it new?
func (t *Tree) Add(p api.Path) (bool, api.Errno) {
	if e := t.ready(p); e != api.OK {
		return false, e
	}
	n := &t.root
	for _, e := range p {
		n = n.enter(e)
	}
	if n.in {
		return false, api.OK
	}
	n.in = true
	t.count++
	return true, api.OK
}

// Drop takes a path out: was it there?
func (t *Tree) Drop(p api.Path) (bool, api.Errno) {
	if e := t.ready(p); e != api.OK {
		return false, e
	}
	trail, n := t.trail(p)
	if n == nil || !n.in {
		return false, api.OK
	}
	n.in = false
	t.count--
	prune(trail)
	return true, api.OK
}

// DropBelow takes a path and all below it out: how many?
func (t *Tree) DropBelow(p api.Path) (int, api.Errno) {
	if e := t.ready(p); e != api.OK {
		return 0, e
	}
	trail, n := t.trail(p)
	if n == nil {
		return 0, api.OK
	}
	gone := 0
	for range n.paths() {
		gone++
	}
	n.in, n.kids = false, nil
	t.count -= gone
	prune(trail)
	return gone, api.OK
}

// Has tells whether a path is there.
func (t *Tree) Has(p api.Path) bool {
	if t.ready(p) != api.OK {
		return false
	}
	_, n := t.trail(p)
	return n != nil && n.in
}

// Any tells whether a path is there, or something below it.
func (t *Tree) Any(p api.Path) bool {
	if t.ready(p) != api.OK {
		return false
	}
	_, n := t.trail(p)
	for range n.paths() {
		return true
	}
	return false
}

// Len tells how many there are.
func (t *Tree) Len() int {
	if t == nil {
		return 0
	}
	return t.count
}

// All lists them, rising.
func (t *Tree) All() []api.Path {
	if t == nil {
		return nil
	}
	return copied(t.root.paths())
}

func (t *Tree) ready(p api.Path) api.Errno {
	if t == nil {
		return api.ErrNil
	}
	return path.Check(p)
}

// trail is the nodes along a path, the root first, and the one at its end; nil, if they do not lead there.
func (t *Tree) trail(p api.Path) ([]*node, *node) {
	n := &t.root
	trail := []*node{n}
	for _, e := range p {
		at, there := n.find(e)
		if !there {
			return nil, nil
		}
		n = n.kids[at]
		trail = append(trail, n)
	}
	return trail, n
}
