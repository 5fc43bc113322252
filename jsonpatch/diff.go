package jsonpatch

import (
	"iter"
	"slices"
	"strconv"
	"strings"

	"freehold/api"
	"freehold/pointer"
	"freehold/value"
)

// between goes through the steps of the patch from a to b.
func between(a, b api.Value) iter.Seq[api.Step] {
	return func(yield func(api.Step) bool) {
		w := walk{tell: yield}
		w.values(a, b)
	}
}

// walk goes down two values together. Its methods answer whether it goes on.
type walk struct {
	tokens []string // of the place where it is; a pointer is made only for a step, since keys may be long and places many
	tell   func(api.Step) bool
}

func (w *walk) values(a, b api.Value) bool {
	switch {
	// Whether two maps or lists are the same comes out below: to ask here would be to go through them once more at each level.
	case a.Kind == api.Map && b.Kind == api.Map:
		return w.maps(a.Map, b.Map)
	case a.Kind == api.List && b.Kind == api.List:
		return w.lists(a.List, b.List)
	case value.Equal(a, b):
		return true
	}
	return w.step("replace", b)
}

func (w *walk) maps(a, b []api.Member) bool {
	for _, x := range slices.Backward(a) {
		if _, stays := find(b, x.Key); !stays && !w.step("remove", api.Value{}, x.Key) {
			return false
		}
	}
	for _, x := range b {
		i, stood := find(a, x.Key)
		if stood && !w.below(x.Key, a[i].Val, x.Val) || !stood && !w.step("add", x.Val, x.Key) {
			return false
		}
	}
	return true
}

func find(l []api.Member, key string) (int, bool) {
	return slices.BinarySearchFunc(l, key, func(x api.Member, key string) int { return strings.Compare(x.Key, key) })
}

func (w *walk) lists(a, b []api.Value) bool {
	begin, end := ends(a, b)
	both := min(len(a), len(b)) - end // where what lies between ends in the shorter one
	for i := begin; i < both; i++ {
		if !w.below(strconv.Itoa(i), a[i], b[i]) {
			return false
		}
	}
	for i := len(a) - end - 1; i >= both; i-- {
		if !w.step("remove", api.Value{}, strconv.Itoa(i)) {
			return false
		}
	}
	for i := both; i < len(b)-end; i++ {
		if !w.step("add", b[i], strconv.Itoa(i)) {
			return false
		}
	}
	return true
}

// ends is with how many elements two lists begin alike, and with how many of the others they end alike.
func ends(a, b []api.Value) (int, int) {
	begin, end, most := 0, 0, min(len(a), len(b))
	for begin < most && value.Equal(a[begin], b[begin]) {
		begin++
	}
	for end < most-begin && value.Equal(a[len(a)-1-end], b[len(b)-1-end]) {
		end++
	}
	return begin, end
}

// below goes on with what stands in both at one token.
func (w *walk) below(token string, a, b api.Value) bool {
	w.tokens = append(w.tokens, token)
	on := w.values(a, b)
	w.tokens = w.tokens[:len(w.tokens)-1]
	return on
}

// step tells a step at the place, or at one token below it.
func (w *walk) step(op string, v api.Value, token ...string) bool {
	p, _ := pointer.Print(slices.Concat(w.tokens, token)) // keys of good values are text strings
	return w.tell(api.Step{Op: op, Path: p, Value: value.Clone(v)})
}
