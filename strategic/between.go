package strategic

import (
	"errors"
	"iter"
	"slices"

	"freehold/api"
	"freehold/value"
)

// errOutOfReach is what the search for a patch gives up with, from however deep inside.
var errOutOfReach = errors.New("a key that no patch can reach")

// between is the patch from a to b.
func between(root shape, a, b api.Value) (p api.Value, e api.Errno) {
	defer func() {
		// Nothing else is caught: a fault of the program must not pass for an answer.
		if r := recover(); r == errOutOfReach {
			p, e = api.Value{}, api.ErrDirective
		} else if r != nil {
			panic(r)
		}
	}()
	p, _ = root.between(a, b)
	return p, api.OK
}

// reached is a key that a patch can reach; it gives up, if none can.
func reached(key string) string {
	if !inReach(key) {
		panic(errOutOfReach)
	}
	return key
}

// beside goes over two rising lists at once: what both have comes together, what one of them has alone with nil for the other.
func beside[T any](a, b []T, order func(x, y T) int) iter.Seq2[*T, *T] {
	return func(yield func(x, y *T) bool) {
		for i, k := 0, 0; i < len(a) || k < len(b); {
			var x, y *T
			if k == len(b) || i < len(a) && order(a[i], b[k]) <= 0 {
				x = &a[i]
			}
			if i == len(a) || k < len(b) && order(a[i], b[k]) >= 0 {
				y = &b[k]
			}
			if x != nil {
				i++
			}
			if y != nil {
				k++
			}
			if !yield(x, y) {
				return
			}
		}
	}
}

func (leaf) between(a, b api.Value) (api.Value, bool) { return b, !value.Equal(a, b) }

func (leaf) whole(api.Value) {}

func (h holder) between(a, b api.Value) (api.Value, bool) {
	var l []api.Member
	for x, y := range beside(a.Map, b.Map, byKey) {
		switch {
		case y == nil:
			l = append(l, api.Member{Key: reached(x.Key)})
		case x == nil:
			h.wholeMember(*y)
			l = append(l, *y)
		default:
			l = append(l, h.parting(x.Key, x.Val, y.Val)...)
		}
	}
	slices.SortFunc(l, byKey) // what goes from sets stands at other keys
	return api.Value{Kind: api.Map, Map: l}, len(l) > 0
}

// parting is the members of a patch for a key that both values have; none, if they are the same there.
func (h holder) parting(key string, a, b api.Value) []api.Member {
	var l []api.Member
	below, _ := h.below(key)
	switch x := below.(type) {
	case set:
		goes, comes := x.parted(a, b)
		if len(goes) > 0 {
			l = append(l, api.Member{Key: deleteKey + reached(key), Val: api.Value{Kind: api.List, List: goes}})
		}
		if len(comes) > 0 {
			l = append(l, api.Member{Key: reached(key), Val: api.Value{Kind: api.List, List: comes}})
		}
	default:
		if p, parts := x.between(a, b); parts {
			l = append(l, api.Member{Key: reached(key), Val: p})
		}
	}
	return l
}

func (h holder) whole(v api.Value) {
	for _, m := range v.Map {
		h.wholeMember(m)
	}
}

func (h holder) wholeMember(m api.Member) {
	below, _ := h.below(reached(m.Key))
	below.whole(m.Val)
}

// parted is what goes from a set and what comes to it.
func (set) parted(a, b api.Value) (goes, comes []api.Value) {
	for x, y := range beside(a.List, b.List, value.Compare) {
		switch {
		case y == nil:
			goes = append(goes, *x)
		case x == nil:
			comes = append(comes, *y)
		}
	}
	return goes, comes
}

// between says of a set that is no member of anything what it is to be, if something goes: there is no $delete/ for it.
func (s set) between(a, b api.Value) (api.Value, bool) {
	goes, comes := s.parted(a, b)
	if len(goes) > 0 {
		replace := api.Value{Kind: api.Map, Map: []api.Member{{Key: patchKey, Val: text(wordReplace)}}}
		return api.Value{Kind: api.List, List: append([]api.Value{replace}, b.List...)}, true
	}
	return api.Value{Kind: api.List, List: comes}, len(comes) > 0
}

func (set) whole(api.Value) {}

func (k keyed) between(a, b api.Value) (api.Value, bool) {
	var l []api.Value
	for x, y := range beside(a.List, b.List, k.order) {
		switch {
		case y == nil:
			l = append(l, k.headed(*x, api.Member{Key: patchKey, Val: text(wordDelete)}))
		case x == nil:
			k.elem.whole(*y)
			l = append(l, *y)
		default:
			if p, parts := k.elem.between(*x, *y); parts {
				l = append(l, k.headed(*y, p.Map...))
			}
		}
	}
	return api.Value{Kind: api.List, List: l}, len(l) > 0
}

// headed is an element of a patch: the key fields of an element of the list, and what the patch says of it.
func (k keyed) headed(x api.Value, says ...api.Member) api.Value {
	for _, key := range k.keys {
		id, _ := find(x.Map, key)
		says = append(says, api.Member{Key: reached(key), Val: id})
	}
	slices.SortFunc(says, byKey)
	return api.Value{Kind: api.Map, Map: says}
}

func (k keyed) whole(v api.Value) {
	for _, x := range v.List {
		k.elem.whole(x)
	}
}

// order is that of elements by their key fields.
func (k keyed) order(x, y api.Value) int {
	for _, key := range k.keys {
		a, _ := find(x.Map, key)
		b, _ := find(y.Map, key)
		if c := value.Compare(a, b); c != 0 {
			return c
		}
	}
	return 0
}
