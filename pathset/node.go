package pathset

import (
	"iter"
	"slices"

	"freehold/api"
	"freehold/checked"
)

// node is a place of a tree: one that is in the set, or that leads to one that is. The root alone stays where there is neither.
type node struct {
	elem api.Elem // what leads to it from the node above
	in   bool
	kids []*node // by their elements, rising
}

// find searches a child by halving: where it is, or would be, and whether it is there.
func (n *node) find(e api.Elem) (int, bool) {
	return slices.BinarySearchFunc(n.kids, e, func(kid *node, e api.Elem) int { return checked.OrderElems(kid.elem, e) })
}

// enter is the child behind an element, made if it is not there.
func (n *node) enter(e api.Elem) *node {
	at, there := n.find(e)
	if !there {
		n.kids = slices.Insert(n.kids, at, &node{elem: checked.CopyElem(e)})
	}
	return n.kids[at]
}

// paths gives the paths of the set at or below a node, rising, as they lead there from the node; none, if there is no node. A path that it gave is written over by the next one.
func (n *node) paths() iter.Seq[api.Path] {
	return func(yield func(api.Path) bool) {
		if n != nil {
			n.each(make(api.Path, 0, api.MaxDepth), yield) // room for the longest: each step writes into it
		}
	}
}

// each tells whether it came to its end, or was broken off.
func (n *node) each(way api.Path, yield func(api.Path) bool) bool {
	if n.in && !yield(way) {
		return false
	}
	for _, kid := range n.kids {
		if !kid.each(append(way, kid.elem), yield) {
			return false
		}
	}
	return true
}

// prune takes the nodes off, from the end of a trail upwards, that lead nowhere any more.
func prune(trail []*node) {
	for i := len(trail) - 1; i > 0; i-- {
		n, above := trail[i], trail[i-1]
		if n.in || len(n.kids) > 0 {
			return
		}
		at, _ := above.find(n.elem)
		above.kids = slices.Delete(above.kids, at, at+1)
	}
}
