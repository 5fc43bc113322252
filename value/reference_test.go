package value

import (
	"encoding/binary"
	"math/rand"
	"reflect"
	"slices"
	"sort"
	"testing"
	"unicode/utf8"

	"freehold/api"
)

// What the tests hold the package against, written from the words of the document in other ways than the package's own.

func num(n int) api.Value                 { return api.Value{Kind: api.Int, Int: n} }
func boolean(b bool) api.Value            { return api.Value{Kind: api.Bool, Bool: b} }
func text(s string) api.Value             { return api.Value{Kind: api.Str, Str: s} }
func list(l ...api.Value) api.Value       { return api.Value{Kind: api.List, List: l} }
func object(l ...api.Member) api.Value    { return api.Value{Kind: api.Map, Map: l} }
func at(k string, v api.Value) api.Member { return api.Member{Key: k, Val: v} }

var null = api.Value{}

// lists is a value in so many lists, one in the other.
func lists(n int, v api.Value) api.Value {
	for range n {
		v = list(v)
	}
	return v
}

// maps is a value in so many maps, one in the other.
func maps(n int, v api.Value) api.Value {
	for range n {
		v = object(at("k", v))
	}
	return v
}

// nulls is a list of so many nulls.
func nulls(n int) api.Value { return list(make([]api.Value, n)...) }

// place is a value and how far it lies below the whole.
type place struct {
	v     api.Value
	level int
}

// wantCheck tells Check's answer, with a pile of places still to come (the next one on top) instead of a way down.
func wantCheck(v api.Value, depth int) api.Errno {
	if depth < 0 || depth > 40 {
		return api.ErrArg
	}
	ahead, bytes := 0, 0
	for todo := []place{{v, 0}}; len(todo) > 0; ahead++ {
		p := todo[len(todo)-1]
		for _, s := range texts(p.v) {
			bytes += len(s)
		}
		switch {
		case ahead == 65536:
			return api.ErrNodes
		case p.level > depth:
			return api.ErrDeep
		case !good(p.v):
			return api.ErrValue
		case bytes > 1048576:
			return api.ErrBytes
		}
		todo = todo[:len(todo)-1]
		for _, x := range slices.Backward(inner(p.v)) {
			todo = append(todo, place{x, p.level + 1})
		}
	}
	return api.OK
}

// texts is a value's own string and keys.
func texts(v api.Value) []string {
	l := []string{v.Str}
	for _, x := range v.Map {
		l = append(l, x.Key)
	}
	return l
}

// inner is what a value holds.
func inner(v api.Value) []api.Value {
	l := append([]api.Value{}, v.List...)
	for _, x := range v.Map {
		l = append(l, x.Val)
	}
	return l
}

// good tells whether a value is, what it holds left aside: it is so if it is the value that its kind makes of the one field that it uses.
func good(v api.Value) bool {
	var same api.Value
	switch v.Kind {
	case 0:
	case 1:
		same = boolean(v.Bool)
	case 2:
		same = num(v.Int)
	case 3:
		same = text(v.Str)
	case 4:
		same = list(v.List...)
	case 5:
		same = object(v.Map...)
	default:
		return false
	}
	for _, s := range texts(v) {
		if !utf8.ValidString(s) {
			return false
		}
	}
	return same.Bool == v.Bool && same.Int == v.Int && same.Str == v.Str &&
		len(same.List) == len(v.List) && len(same.Map) == len(v.Map) &&
		sort.SliceIsSorted(v.Map, func(i, k int) bool { return v.Map[i].Key <= v.Map[k].Key })
}

// wantDepth and wantNodes follow the page's words, and end at values that end alone.
func wantDepth(v api.Value) int {
	d := 0
	for _, x := range inner(v) {
		d = max(d, 1+wantDepth(x))
	}
	return d
}

func wantNodes(v api.Value) int {
	n := 1
	for _, x := range inner(v) {
		n += wantNodes(x)
	}
	return n
}

// mark writes a good value as bytes which are ordered byte by byte as the values are, so that the order and the sameness of values can be read off two strings.
func mark(v api.Value) string {
	switch v.Kind {
	case api.Null:
		return "\x01"
	case api.Bool:
		if v.Bool {
			return "\x03"
		}
		return "\x02"
	case api.Int:
		return "\x04" + string(binary.BigEndian.AppendUint64(nil, uint64(v.Int)^(1<<63)))
	case api.Str:
		return "\x05" + markText(v.Str)
	case api.List:
		s := "\x06"
		for _, x := range v.List {
			s += mark(x)
		}
		return s + "\x00"
	case api.Map:
		s := "\x07"
		for _, x := range v.Map {
			s += "\x01" + markText(x.Key) + mark(x.Val)
		}
		return s + "\x00"
	}
	panic("no kind")
}

// markText ends a string by 0, 0, and writes a 0 within it as 0, 1.
func markText(s string) string {
	var out []byte
	for _, c := range []byte(s) {
		out = append(out, c)
		if c == 0 {
			out = append(out, 1)
		}
	}
	return string(out) + "\x00\x00"
}

func wantCompare(a, b api.Value) int {
	switch x, y := mark(a), mark(b); {
	case x < y:
		return -1
	case x > y:
		return 1
	}
	return 0
}

// isNull tells whether a value is null with nothing in any field.
func isNull(v api.Value) bool {
	return v.Kind == 0 && !v.Bool && v.Int == 0 && v.Str == "" && len(v.List) == 0 && len(v.Map) == 0
}

// pick makes values of few parts, so that two of them are often alike in much.
func pick(r *rand.Rand, depth int) api.Value {
	n := 8
	if depth == 0 {
		n = 6
	}
	switch r.Intn(n) {
	case 0:
		return null
	case 1:
		return boolean(r.Intn(2) == 0)
	case 2:
		return num(r.Intn(5) - 2)
	case 3:
		return text(pickKey(r))
	case 4:
		return list()
	case 5:
		return object()
	case 6:
		return pickList(r, depth)
	}
	return pickMap(r, depth)
}

func pickList(r *rand.Rand, depth int) api.Value {
	v := list()
	for range r.Intn(4) {
		v.List = append(v.List, pick(r, depth-1))
	}
	return v
}

func pickMap(r *rand.Rand, depth int) api.Value {
	keys := map[string]int{}
	for range r.Intn(4) {
		keys[pickKey(r)] = 1
	}
	v := object()
	for _, k := range []string{"", "\x00", "a", "a\x00", "ab", "b", "\u00e9", "\U0001f600"} {
		if keys[k] == 1 {
			v.Map = append(v.Map, at(k, pick(r, depth-1)))
		}
	}
	return v
}

func pickKey(r *rand.Rand) string {
	return []string{"", "\x00", "a", "a\x00", "ab", "b", "\u00e9", "\U0001f600"}[r.Intn(8)]
}

// spoil makes one fault, or none, somewhere in a value that is no one else's.
func spoil(r *rand.Rand, v *api.Value) {
	if len(v.List) > 0 && r.Intn(4) > 0 {
		spoil(r, &v.List[r.Intn(len(v.List))])
		return
	}
	if len(v.Map) > 0 && r.Intn(4) > 0 {
		spoil(r, &v.Map[r.Intn(len(v.Map))].Val)
		return
	}
	switch r.Intn(9) {
	case 0:
		v.Kind = r.Intn(10) - 2
	case 1:
		v.Bool = true
	case 2:
		v.Int = 1 - r.Intn(3)
	case 3:
		v.Str = "x"
	case 4:
		v.Str = "\xc3"
	case 5:
		v.List = []api.Value{null}
	case 6:
		v.Map = append(v.Map, at("a", null))
	case 7:
		v.Map = append([]api.Member{at("\xff", null)}, v.Map...)
	case 8:
		*v = lists(38+r.Intn(5), null)
	}
}

// room is the memory of a list, its spare room too.
type room struct{ from, to uintptr }

func rooms(v api.Value) []room {
	var l []room
	if cap(v.List) > 0 {
		l = append(l, roomOf(reflect.ValueOf(v.List)))
	}
	if cap(v.Map) > 0 {
		l = append(l, roomOf(reflect.ValueOf(v.Map)))
	}
	for _, x := range inner(v) {
		l = append(l, rooms(x)...)
	}
	return l
}

func roomOf(v reflect.Value) room {
	from := v.Pointer()
	return room{from, from + uintptr(v.Cap())*v.Type().Elem().Size()}
}

// checkApart holds an answer's lists against each other and against those of what was handed in.
func checkApart(t *testing.T, what string, answer api.Value, given ...api.Value) {
	t.Helper()
	own := rooms(answer)
	for i, a := range own {
		rest := append([]room{}, own[i+1:]...)
		for _, g := range given {
			rest = append(rest, rooms(g)...)
		}
		for _, b := range rest {
			if a.from < b.to && b.from < a.to {
				t.Errorf("Memory: %s: a list of the answer shares memory", what)
				return
			}
		}
	}
}

// roomy is a value in memory of its own whose lists have spare room, with something in it.
func roomy(v api.Value) api.Value {
	var l []api.Value
	for _, x := range v.List {
		l = append(l, roomy(x))
	}
	var m []api.Member
	for _, x := range v.Map {
		m = append(m, at(x.Key, roomy(x.Val)))
	}
	v.List = append(l, num(77), num(78))[:len(l)]
	v.Map = append(m, at("spare", num(79)))[:len(m)]
	return v
}

// whole is a value with the spare room of its lists told as if it were part of them.
func whole(v api.Value) api.Value {
	v.List, v.Map = v.List[:cap(v.List)], v.Map[:cap(v.Map)]
	var l []api.Value
	for _, x := range v.List {
		l = append(l, whole(x))
	}
	var m []api.Member
	for _, x := range v.Map {
		m = append(m, at(x.Key, whole(x.Val)))
	}
	v.List, v.Map = l, m
	return v
}
