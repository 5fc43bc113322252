package mergepatch

import (
	"fmt"
	"maps"
	"math/rand"
	"reflect"
	"slices"
	"sort"
	"testing"

	"freehold/api"
	"freehold/json"
	"freehold/value"
)

// What the tests hold the package against, written from the words of the document and of RFC 7386 in other ways than the package's own: maps are Go's maps, changed where they lie, and each key is looked up.

func num(n int) api.Value                 { return api.Value{Kind: api.Int, Int: n} }
func text(s string) api.Value             { return api.Value{Kind: api.Str, Str: s} }
func list(l ...api.Value) api.Value       { return api.Value{Kind: api.List, List: l} }
func object(l ...api.Member) api.Value    { return api.Value{Kind: api.Map, Map: l} }
func at(k string, v api.Value) api.Member { return api.Member{Key: k, Val: v} }

var (
	null = api.Value{}
	bad  = api.Value{Kind: 9}
)

// lists is a value in so many lists, one in the other.
func lists(n int, v api.Value) api.Value {
	for range n {
		v = list(v)
	}
	return v
}

// objects is a value in so many maps, one in the other.
func objects(n int, v api.Value) api.Value {
	for range n {
		v = object(at("k", v))
	}
	return v
}

// keyed is a map of so many members with the same value, whose keys have one beginning and one length.
func keyed(n int, begin string, x api.Value) api.Value {
	v := object()
	for i := range n {
		v.Map = append(v.Map, at(fmt.Sprintf("%s%06d", begin, i), x))
	}
	return v
}

// read is the value of a text.
func read(s string) api.Value {
	v, _, e := json.Parse([]byte(s), api.DeepRecord)
	if e != api.OK {
		panic(s)
	}
	return v
}

// show is a value as a test tells it.
func show(v api.Value) string {
	b, e := json.Print(v, api.DeepRecord)
	if e != api.OK || len(b) > 300 {
		return fmt.Sprintf("a value of the kind %d (%d)", v.Kind, e)
	}
	return string(b)
}

// loose is a map as Go has it; what is no map is itself.
func loose(v api.Value) any {
	if v.Kind != api.Map {
		return v
	}
	m := map[string]any{}
	for _, x := range v.Map {
		m[x.Key] = loose(x.Val)
	}
	return m
}

func tight(x any) api.Value {
	m, ok := x.(map[string]any)
	if !ok {
		return x.(api.Value)
	}
	v := object()
	for _, k := range slices.Sorted(maps.Keys(m)) {
		v.Map = append(v.Map, at(k, tight(m[k])))
	}
	return v
}

func isNull(x any) bool {
	v, ok := x.(api.Value)
	return ok && v.Kind == api.Null
}

// merge is RFC 7386's own function, line by line.
func merge(target, patch any) any {
	p, ok := patch.(map[string]any)
	if !ok {
		return patch
	}
	t, ok := target.(map[string]any)
	if !ok {
		t = map[string]any{}
	}
	for k, x := range p {
		if isNull(x) {
			delete(t, k)
		} else {
			t[k] = merge(t[k], x)
		}
	}
	return t
}

func checked(l ...api.Value) api.Errno {
	for _, v := range l {
		if e := value.Check(v, 32); e != api.OK {
			return e
		}
	}
	return api.OK
}

func wantApply(t, p api.Value) (api.Value, api.Errno) {
	if e := checked(t, p); e != api.OK {
		return null, e
	}
	v := tight(merge(loose(t), loose(p)))
	if e := checked(v); e != api.OK {
		return null, e
	}
	return v, api.OK
}

func wantClean(v api.Value) (api.Value, api.Errno) {
	if e := checked(v); e != api.OK {
		return null, e
	}
	return tight(merge(null, loose(v))), api.OK
}

// isClean is the document's word clean.
func isClean(v api.Value) bool {
	return v.Kind != api.Null && !slices.ContainsFunc(v.Map, func(m api.Member) bool { return !isClean(m.Val) })
}

// members is what a map has, by key; value.Get would look at the whole map for each.
func members(v api.Value) map[string]api.Value {
	m := map[string]api.Value{}
	for _, x := range v.Map {
		m[x.Key] = x.Val
	}
	return m
}

// leads is P5.4, word by word.
func leads(a, b api.Value) bool {
	if b.Kind != api.Map {
		return true
	}
	if a.Kind != api.Map {
		return isClean(b)
	}
	had := members(a)
	for _, m := range b.Map {
		x, there := had[m.Key]
		if !(there && same(x, m.Val) || there && leads(x, m.Val) && m.Val.Kind != api.Null || !there && isClean(m.Val)) {
			return false
		}
	}
	return true
}

// patch is P5.3's patch, word by word.
func patch(a, b api.Value) api.Value {
	if a.Kind != api.Map || b.Kind != api.Map {
		return b
	}
	had, has, p := members(a), members(b), map[string]any{}
	for k, x := range had {
		if y, there := has[k]; !there {
			p[k] = null
		} else if !same(x, y) {
			p[k] = patch(x, y)
		}
	}
	for k, y := range has {
		if _, there := had[k]; !there {
			p[k] = y
		}
	}
	return tight(p)
}

func wantDiff(a, b api.Value) (api.Value, bool, api.Errno) {
	if e := checked(a, b); e != api.OK {
		return null, false, e
	}
	if !leads(a, b) {
		return null, false, api.OK
	}
	p := patch(a, b)
	if e := checked(p); e != api.OK {
		return null, false, e
	}
	return p, true, api.OK
}

// pick makes values of few parts.
func pick(r *rand.Rand, depth int) api.Value {
	n := 12
	if depth == 0 {
		n = 5
	}
	switch k := r.Intn(n); {
	case k < 2:
		return null
	case k == 2:
		return api.Value{Kind: api.Bool, Bool: r.Intn(2) == 0}
	case k == 3:
		return num(r.Intn(3))
	case k == 4:
		return text(pickKey(r))
	case k == 5:
		v := list()
		for range r.Intn(4) {
			v.List = append(v.List, pick(r, depth-1))
		}
		return v
	}
	m := map[string]any{}
	for range r.Intn(6) {
		m[pickKey(r)] = pick(r, depth-1)
	}
	return tight(m)
}

func pickKey(r *rand.Rand) string {
	return []string{"", "a", "ab", "b", "c", "\u00e9", "\x00", "\U0001f600"}[r.Intn(8)]
}

// near is a value with some of its parts changed.
func near(r *rand.Rand, v api.Value, depth int) api.Value {
	if v.Kind != api.Map || depth == 0 || r.Intn(12) == 0 {
		if r.Intn(3) > 0 {
			return v
		}
		return pick(r, depth)
	}
	m := map[string]any{}
	for _, x := range v.Map {
		if r.Intn(5) > 0 {
			m[x.Key] = near(r, x.Val, depth-1)
		}
	}
	if r.Intn(3) == 0 {
		m[pickKey(r)] = pick(r, depth-1)
	}
	return tight(m)
}

// room is the memory of a list, its spare room too.
type room struct{ from, to uintptr }

func rooms(v api.Value) []room {
	l := append(roomOf(v.List), roomOf(v.Map)...)
	for _, x := range v.List {
		l = append(l, rooms(x)...)
	}
	for _, x := range v.Map {
		l = append(l, rooms(x.Val)...)
	}
	return l
}

func roomOf(l any) []room {
	v := reflect.ValueOf(l)
	if v.Cap() == 0 {
		return nil
	}
	return []room{{v.Pointer(), v.Pointer() + uintptr(v.Cap())*v.Type().Elem().Size()}}
}

// checkApart holds rooms against each other: no two may have memory in common.
func checkApart(t *testing.T, what string, l []room) {
	t.Helper()
	sort.Slice(l, func(i, k int) bool { return l[i].from < l[k].from })
	for i := 1; i < len(l); i++ {
		if l[i].from < l[i-1].to {
			t.Errorf("%s: two lists share memory", what)
			return
		}
	}
}

// roomy is a value in memory of its own whose lists have spare room, with something in it.
func roomy(v api.Value) api.Value {
	var l []api.Value
	for _, x := range v.List {
		l = append(l, roomy(x))
	}
	var m []api.Member
	for _, x := range v.Map {
		m = append(m, at(x.Key, roomy(x.Val)))
	}
	v.List = append(l, num(77), num(78))[:len(l)]
	v.Map = append(m, at("spare", num(79)))[:len(m)]
	return v
}

// whole is a value with the spare room of its lists told as if it were part of them.
func whole(v api.Value) api.Value {
	v.List, v.Map = v.List[:cap(v.List)], v.Map[:cap(v.Map)]
	var l []api.Value
	for _, x := range v.List {
		l = append(l, whole(x))
	}
	var m []api.Member
	for _, x := range v.Map {
		m = append(m, at(x.Key, whole(x.Val)))
	}
	v.List, v.Map = l, m
	return v
}

// same tells whether two values are the same in kind and content.
func same(a, b api.Value) bool {
	if a.Kind != b.Kind || a.Bool != b.Bool || a.Int != b.Int || a.Str != b.Str || len(a.List) != len(b.List) || len(a.Map) != len(b.Map) {
		return false
	}
	for i := range a.List {
		if !same(a.List[i], b.List[i]) {
			return false
		}
	}
	for i := range a.Map {
		if a.Map[i].Key != b.Map[i].Key || !same(a.Map[i].Val, b.Map[i].Val) {
			return false
		}
	}
	return true
}

// scribble writes over all that a value holds, spare room too.
func scribble(v api.Value) {
	l, m := v.List[:cap(v.List)], v.Map[:cap(v.Map)]
	for i := range l {
		scribble(l[i])
		l[i] = text("scribble")
	}
	for i := range m {
		scribble(m[i].Val)
		m[i] = at("scribble", text("scribble"))
	}
}
