package fields

import (
	"math/rand"
	"slices"
	"testing"

	"freehold/api"
	"freehold/json"
	"freehold/path"
	"freehold/value"
)

// small is some paths that lie above, below and beside each other, rising; their texts stand in another order.
func small() []api.Path {
	return []api.Path{nil, steps("a"), steps("a", "b"), {field("a"), item(num(2))}, {field("a"), item(num(10))}, steps("b"), {key(at("k", num(1)))}, {key(at("k", num(1))), field("x"), field("y")}, {item(num(2))}, {item(num(10))}}
}

// subsets is every set of some paths.
func subsets(l []api.Path) [][]api.Path {
	var sets [][]api.Path
	for bits := range 1 << len(l) {
		var s []api.Path
		for i, p := range l {
			if bits>>i&1 == 1 {
				s = append(s, p)
			}
		}
		sets = append(sets, s)
	}
	return sets
}

// checkBoth goes there and back, and holds the count of values against that of beginnings.
func checkBoth(t *testing.T, l []api.Path) api.Value {
	t.Helper()
	v, e := checkEncode(t, l)
	if e != api.OK {
		t.Fatalf("P11.1: Encode(%s): %d", show(l...), e)
	}
	if back, e := checkDecode(t, v); e != api.OK || !same(back, l) {
		t.Fatalf("P11.3: %s, there and back: %s, %d", show(l...), show(back...), e)
	}
	if n, want := value.Nodes(v), wantNodes(l); n != want {
		t.Fatalf("P11.3: the value of %s has %d values, want %d", show(l...), n, want)
	}
	return v
}

// wantNodes counts the beginnings, the root, and what needs a dot.
func wantNodes(l []api.Path) int {
	leads := map[string]bool{}
	for _, p := range l {
		for n := 1; n <= len(p); n++ {
			leads[pathBytes(p[:n])] = true
		}
	}
	n := len(leads) + 1
	for _, p := range l {
		if len(p) == 0 || slices.ContainsFunc(l, func(q api.Path) bool { return len(q) > len(p) && path.Above(p, q) }) {
			n++
		}
	}
	return n
}

// Every set of a few paths, there and back; unlike sets have unlike values.
func TestEverySet(t *testing.T) {
	seen := map[string][]api.Path{}
	for _, l := range subsets(small()) {
		b, e := json.Print(checkBoth(t, l), api.MaxDepth)
		if e != api.OK {
			t.Fatalf("P11.1: the value of %s has no text: %d", show(l...), e)
		}
		if other, there := seen[string(b)]; there {
			t.Fatalf("P11.3: %s and %s have one value", show(l...), show(other...))
		}
		seen[string(b)] = l
	}
}

// Every short list of a few paths and one that is none, whether it is a set or not.
func TestEveryShortList(t *testing.T) {
	some := append(small()[:5:5], api.Path{{Kind: api.ElemField, Name: "\xff"}})
	seen := map[api.Errno]int{}
	var each func(l []api.Path, n int)
	each = func(l []api.Path, n int) {
		_, e := checkEncode(t, l)
		seen[e]++
		for _, p := range some {
			if n > 0 {
				each(append(slices.Clone(l), p), n-1)
			}
		}
	}
	each(nil, 4)
	if len(seen) != 3 || seen[api.OK] < 20 {
		t.Errorf("few of one sort: %v", seen)
	}
}

// maps is every map whose keys are some of these, each with one of these values.
func maps(keys []string, vals []api.Value) []api.Value {
	all := []api.Value{{Kind: api.Map}}
	for _, k := range keys {
		for _, m := range all[:len(all):len(all)] {
			for _, v := range vals {
				all = append(all, api.Value{Kind: api.Map, Map: append(slices.Clone(m.Map), at(k, v))})
			}
		}
	}
	return all
}

// Every small value of keys that are texts of elements, a dot, or neither.
func TestEveryValue(t *testing.T) {
	odd := []api.Value{{}, {Kind: api.List}, {Kind: api.Map}}
	low := maps([]string{"", ".", ".a", "[=1]"}, odd[2:])
	low = append(low, maps([]string{".", ".b"}, odd)...)
	mid := maps([]string{".", ".a"}, low)
	seen := map[api.Errno]int{}
	for _, v := range append(mid, maps([]string{".", ".a", ".a.b", "[=10]", "[=2]", "a"}, odd[1:])...) {
		l, e := checkDecode(t, v)
		seen[e]++
		if e == api.OK && !same(checkBoth(t, l), v) {
			t.Fatalf("P11.3: Encode of what Decode(%s) answers", tell(v))
		}
	}
	for _, v := range maps([]string{".", ".a", ".b"}, append(mid[:40:40], odd...)) {
		_, e := checkDecode(t, v)
		seen[e]++
	}
	if len(seen) != 2 || seen[api.OK] < 50 {
		t.Errorf("few of one sort: %v", seen)
	}
}

// Picked sets, there and back, and lists that are no sets.
func TestManySets(t *testing.T) {
	r := rand.New(rand.NewSource(111))
	for range 1200 {
		l := pickSet(r, 25)
		checkBoth(t, l)
		if len(l) > 0 {
			i, k := r.Intn(len(l)), r.Intn(len(l))
			l[i] = pickOf(r, spoil(r, l[i]), l[k], near(r, l[k]))
			checkEncode(t, l)
		}
	}
}

// spoilValue changes a little somewhere in a value.
func spoilValue(r *rand.Rand, v *api.Value) {
	if len(v.Map) > 0 && r.Intn(4) > 0 {
		spoilValue(r, &v.Map[r.Intn(len(v.Map))].Val)
		return
	}
	empty := api.Value{Kind: api.Map}
	switch r.Intn(6) {
	case 0:
		*v = pickOf(r, api.Value{}, api.Value{Kind: api.List}, empty, num(0), text("."), api.Value{Kind: 6}, api.Value{Kind: api.Map, Bool: true})
	case 1:
		with(v, ".", pickOf(r, empty, empty, empty, api.Value{}, under(1, ".a", empty), under(1, ".", empty)))
	case 2:
		with(v, pickOf(r, "", "a", ".a", ".a.b", `."a"`, "[=01]", "[=1]", "[", "[a=1,b=2]", "[b=1,a=2]", "[=1]x", "[=1][=2]"), empty)
	case 3:
		p := pickPath(r)
		if s, e := path.Text(p[:min(len(p), 1+r.Intn(2))]); e == api.OK {
			with(v, s, empty)
		}
	case 4:
		if len(v.Map) > 0 {
			i := r.Intn(len(v.Map))
			v.Map = slices.Delete(v.Map, i, i+1)
		}
	case 5:
		if len(v.Map) > 0 {
			m := &v.Map[r.Intn(len(v.Map))]
			m.Key = pickOf(r, m.Key+m.Key, m.Key+" ", " "+m.Key, m.Key[:max(0, len(m.Key)-1)])
		}
	}
}

// with puts a member into a map, at its place; sometimes it is the second one of its key.
func with(v *api.Value, k string, x api.Value) {
	i, _ := slices.BinarySearchFunc(v.Map, k, func(m api.Member, k string) int {
		if m.Key < k {
			return -1
		}
		return 1
	})
	v.Map = slices.Insert(v.Map, i, at(k, x))
}

// Values of sets, changed here and there.
func TestSpoiltValues(t *testing.T) {
	r := rand.New(rand.NewSource(112))
	seen := map[api.Errno]int{}
	for range 8000 {
		v, e := Encode(pickSet(r, 8))
		if e != api.OK {
			t.Fatalf("P11.1: %d", e)
		}
		for range 1 + r.Intn(2) {
			spoilValue(r, &v)
		}
		l, e := checkDecode(t, v)
		seen[e]++
		if e != api.OK {
			continue
		}
		if w, e := Encode(l); e != api.OK || !same(w, v) {
			t.Fatalf("P11.3: Encode of what Decode(%s) answers: %s, %d", tell(v), tell(w), e)
		}
	}
	if seen[api.OK] < 500 || seen[api.ErrFields] < 500 || seen[api.ErrValue] < 100 {
		t.Errorf("few of one sort: %v", seen)
	}
}

// Whatever a call is given, spare room included, stays; whatever it answers is memory of its own.
func TestMemory(t *testing.T) {
	r := rand.New(rand.NewSource(113))
	for range 300 {
		l := roomy(pickSet(r, 15))
		v, e := Encode(l)
		if e != api.OK {
			t.Fatalf("P11.1: %d", e)
		}
		given := roomy(v)
		was := whole(l) + whole(given)
		vals := []api.Value{v, checkedEncode(t, l), checkedEncode(t, l)}
		sets := [][]api.Path{checkedDecode(t, given), checkedDecode(t, given)}
		scribble(vals[1])
		scribble(sets[0])
		if !same(vals[2], v) || !same(sets[1], l) || !same(checkedEncode(t, l), v) || !same(checkedDecode(t, given), l) {
			t.Fatal("memory: what was written into an answer is seen in another one")
		}
		if whole(l)+whole(given) != was {
			t.Fatal("memory: a call changed what it was given")
		}
		var lists []room // asked for when all answers are there: memory that none of them holds any more may be used again
		for _, x := range append(vals, given) {
			lists = append(lists, rooms(x)...)
		}
		for _, x := range append(sets, l) {
			lists = append(lists, rooms(x)...)
		}
		checkApart(t, "the answers", lists)
		scribble(given)
		scribble(l)
		if !same(sets[1], checkedDecode(t, v)) {
			t.Fatal("memory: what was handed in is kept")
		}
	}
}

func checkedEncode(t *testing.T, l []api.Path) api.Value {
	t.Helper()
	v, e := Encode(l)
	if e != api.OK {
		t.Fatalf("P11.1: %d", e)
	}
	return v
}

func checkedDecode(t *testing.T, v api.Value) []api.Path {
	t.Helper()
	l, e := Decode(v)
	if e != api.OK {
		t.Fatalf("P11.2: %d", e)
	}
	return l
}

// A call that tells a fault leaves what it was given as well.
func TestMemoryOfFaults(t *testing.T) {
	r := rand.New(rand.NewSource(114))
	for range 300 {
		l := pickSet(r, 8)
		v := checkedEncode(t, l)
		spoilValue(r, &v)
		if len(l) > 0 {
			l[r.Intn(len(l))] = spoil(r, l[0])
		}
		l, v = roomy(l), roomy(v)
		was := whole(l) + whole(v)
		if x, e := Encode(l); e != api.OK && !same(x, api.Value{}) {
			t.Fatalf("P11.1: a value beside %d", e)
		}
		if x, e := Decode(v); e != api.OK && x != nil {
			t.Fatalf("P11.2: paths beside %d", e)
		}
		if whole(l)+whole(v) != was {
			t.Fatal("memory: a call changed what it was given")
		}
	}
}

// The empty lists of an answer have no room of what was handed in.
func TestEmptyRoom(t *testing.T) {
	l := roomy([]api.Path{nil, {field("a"), key(at("k", num(1))), item(text("x"))}})
	v := roomy(checkedEncode(t, l))
	for _, r := range rooms(checkedDecode(t, v)) {
		for _, x := range rooms(v) {
			if r.from < x.to && x.from < r.to {
				t.Error("memory: an answer of Decode has room of what was handed in")
			}
		}
	}
	for _, p := range checkedDecode(t, v) {
		for _, e := range p {
			if cap(e.Item.List)+cap(e.Item.Map) > 0 || e.Kind != api.ElemKey && cap(e.Key) > 0 {
				t.Errorf("memory: an empty list of %+v has room", e)
			}
		}
	}
}

// A large set below a long way, there and back.
func TestLarge(t *testing.T) {
	way := steps("spec", "template", "spec", "containers")
	var l []api.Path
	for i := range 20000 {
		one := append(slices.Clone(way), key(at("id", num(i-10000))))
		l = append(l, one, append(slices.Clone(one), field("image")))
	}
	v := checkedEncode(t, l)
	if n := value.Nodes(v); n != 60005 {
		t.Errorf("P11.3: %d values", n)
	}
	if !same(checkedDecode(t, v), l) {
		t.Error("P11.3: a large set, there and back")
	}
}
