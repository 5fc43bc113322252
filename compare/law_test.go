package compare

import (
	"math/rand"
	"slices"
	"testing"

	"freehold/api"
	"freehold/leaves"
	"freehold/pathset"
	"freehold/schema"
	"freehold/validate"
	"freehold/value"
)

// must is an answer of a call that may not fail.
func must[T any](t *testing.T, what string) func(x T, e api.Errno) T {
	return func(x T, e api.Errno) T {
		t.Helper()
		if e != api.OK {
			t.Fatalf("%s: %d", what, e)
		}
		return x
	}
}

// checkLaws holds P13.4 and P13.5 of two valid values and a set.
func checkLaws(t *testing.T, s api.Schema, typ string, a, b api.Value, l []api.Path) {
	t.Helper()
	change, val := must[api.Change](t, "P13.4, P13.5"), must[api.Value](t, "P13.4, P13.5")
	fail := func(law string, v api.Value) {
		t.Helper()
		t.Fatalf("%s: %+v, %s, %s, %s, %s: %s", law, s, typ, show(a), show(b), tell(l), show(v))
	}
	n, m := val(validate.Normal(s, typ, a)), val(validate.Normal(s, typ, b))
	d, back := change(Diff(s, typ, a, b)), change(Diff(s, typ, b, a))
	if !same(back, api.Change{Added: d.Removed, Changed: d.Changed, Removed: d.Added}) {
		fail("P13.4: Diff there and back", null)
	}
	if is, e := Same(s, typ, a, b); e != api.OK || is != value.Equal(n, m) {
		fail("P13.4: Same", m)
	}
	if v := val(Merge(s, typ, a, a)); !same(v, n) {
		fail("P13.4: Merge with itself", v)
	}
	both := val(Merge(s, typ, a, b))
	more, ofB := change(Diff(s, typ, a, both)), gathered(s, typ, b)
	for _, p := range slices.Concat(more.Added, more.Changed) {
		if _, there := ofB[pathBytes(p)]; !there {
			fail("P13.4: what Merge adds or changes", both)
		}
	}
	if len(more.Removed) > 0 || !same(val(Merge(s, typ, both, b)), both) {
		fail("P13.4: what Merge removes, and once more", both)
	}
	if !isLeaf(follow(s, typ)) {
		checkPartLaws(t, s, typ, a, b, n, m, d, l, fail)
	}
}

// checkPartLaws holds the laws of types that are no leaves: n and m are the normal forms of a and b, d is what parts them.
func checkPartLaws(t *testing.T, s api.Schema, typ string, a, b, n, m api.Value, d api.Change, l []api.Path, fail func(law string, v api.Value)) {
	t.Helper()
	change, val, paths := must[api.Change](t, "P13.5"), must[api.Value](t, "P13.4, P13.5"), must[[]api.Path](t, "P13.5")
	if v := val(Merge(s, typ, a, valueOf(follow(s, typ), nil))); !same(v, n) {
		fail("P13.4: Merge with nothing", v)
	}
	under := chosenOf(gathered(s, typ, a), func(k string, x spot) bool {
		return slices.ContainsFunc(l, func(p api.Path) bool { return len(p) <= len(x.path) && same(p, x.path[:len(p)]) })
	})
	left, of := val(Drop(s, typ, a, l)), val(Extract(s, typ, a, l))
	if c := change(Diff(s, typ, a, left)); len(c.Added)+len(c.Changed) > 0 || !same(c.Removed, under) {
		fail("P13.5: what Drop removes", left)
	}
	if c := change(Diff(s, typ, of, a)); len(c.Removed)+len(c.Changed) > 0 {
		fail("P13.5: what Extract adds", of)
	}
	whole := paths(pathset.Union(l, under))
	if v := val(Merge(s, typ, val(Drop(s, typ, a, whole)), val(Extract(s, typ, a, whole)))); !same(v, n) {
		fail("P13.5: Merge of Drop and Extract", v)
	}
	anew := paths(pathset.Union(d.Added, d.Changed))
	if v := val(Merge(s, typ, val(Drop(s, typ, a, d.Removed)), val(Extract(s, typ, b, anew)))); !same(v, m) {
		fail("P13.5: from a to b", v)
	}
}

// values is the values of all choices of some leaves that are a value's.
func values(t *testing.T, typ string, l []api.Leaf) []api.Value {
	t.Helper()
	var all []api.Value
	for bits := range 1 << len(l) {
		var some []api.Leaf
		for i, x := range l {
			if bits>>i&1 == 1 {
				some = append(some, x)
			}
		}
		if v, _, e := leaves.Value(example(), typ, some); e == api.OK {
			all = append(all, v)
		}
	}
	return all
}

// leavesOf is the leaves of the value of a text.
func leavesOf(t *testing.T, typ, v string) []api.Leaf {
	t.Helper()
	return must[[]api.Leaf](t, v)(leaves.Of(example(), typ, read(v)))
}

// Every two values whose leaves lie beside, above and below each other.
func TestEveryTwo(t *testing.T) {
	for _, c := range []struct{ typ, low, high string }{
		{"T", `{"a":1,"l":[{"id":1,"x":"q"},{"id":2}],"s":["p"],"w":[]}`, `{"a":1,"l":[{"id":1,"x":"r"},{"id":3}],"m":{"k":"w"},"s":["o"],"w":[1]}`},
		{"Ps", `[{"a":"","b":1,"p":false,"ps":[{"b":1,"p":false,"q":"y"}]},{"b":2,"p":true}]`, `[{"a":"","b":1,"p":false,"ps":[{"b":1,"m":{"k":""},"p":false,"q":"z"},{"b":1,"p":true}]}]`},
		{"U", `{"at":{},"c":1,"e":{"id":1},"n":{"n":{"a":1}},"o":{"l":[{"id":1}]}}`, `{"at":{"w":[]},"c":1,"e":{"id":1,"x":""},"o":{"l":[{"id":1,"x":""}],"s":["a"]}}`},
	} {
		n := 0
		for _, a := range values(t, c.typ, leavesOf(t, c.typ, c.low)) {
			for _, b := range values(t, c.typ, leavesOf(t, c.typ, c.high)) {
				n++
				checkDiff(t, example(), c.typ, a, b)
				if _, e := checkMerge(t, example(), c.typ, a, b); e != api.OK {
					t.Fatalf("P13.2: Merge(%s, %s): %d", show(a), show(b), e)
				}
				if n%16 == 0 {
					checkLaws(t, example(), c.typ, a, b, nil)
				}
			}
		}
		if n < 250 {
			t.Errorf("few of %s: %d", c.typ, n)
		}
	}
}

// Every choice of paths at, above, below and beside the leaves of a value.
func TestEverySet(t *testing.T) {
	for _, c := range []struct {
		typ, v string
		paths  []string
	}{
		{"T", `{"a":1,"l":[{"id":1,"x":"q"},{"id":2,"x":""}],"s":["p"],"w":[1]}`, []string{"", ".a", ".l", ".l[id=1]", ".l[id=1].id", ".l[id=1].x", ".l[id=2].x", ".l[id=3]", ".s", `.s[="p"]`, ".w", ".w[=1]"}},
		{"Ps", `[{"b":1,"p":false,"ps":[{"b":1,"p":false,"ps":[{"b":2,"p":true}],"q":"y"},{"b":1,"p":true}]},{"a":"","b":2,"p":true}]`, []string{"[b=1,p=false]", "[b=1,p=false].ps", "[b=1,p=false].ps[b=1,p=false]", "[b=1,p=false].ps[b=1,p=false].p", "[b=1,p=false].ps[b=1,p=false].ps[b=2,p=true]", "[b=1,p=false].ps[b=1,p=false].q", "[b=1,p=false].ps[b=1,p=true]", "[b=1,p=false].ps[b=1,p=true].q", "[b=2,p=true].a"}},
		{"Strs", `["","a"]`, []string{"", ".a", `[=""]`, `[="a"]`, `[="b"]`}}, {"W", `[1]`, []string{"", ".a", "[=1]"}},
	} {
		all := set(c.paths...)
		if e := pathset.Check(all); e != api.OK {
			t.Fatalf("%q: %d", c.paths, e)
		}
		for bits := range 1 << len(all) {
			var some []api.Path
			for i, p := range all {
				if bits>>i&1 == 1 {
					some = append(some, p)
				}
			}
			checkParts(t, example(), c.typ, read(c.v), some)
			if bits%8 == 0 {
				checkLaws(t, example(), c.typ, read(c.v), read(c.v), some)
			}
		}
	}
}

// Picked values of picked types, and what has much in common with them.
func TestManyValues(t *testing.T) {
	r := rand.New(rand.NewSource(131))
	var added, changed, removed, alike, merged, dropped, picked int
	for range 150 {
		s := pickSchema(r)
		if e := schema.Check(s); e != api.OK {
			t.Fatalf("a picked schema: %d", e)
		}
		for range 25 {
			typ := pickOf(r, names(s)...)
			a := pickValue(r, s, typ, 5)
			b := vary(r, s, typ, a, 5)
			l := pickSet(r, s, typ, pickOf(r, a, a, a, b))
			d := checkDiff(t, s, typ, a, b)
			v, e := checkMerge(t, s, typ, a, b)
			if e != api.OK {
				t.Fatalf("P13.2: %+v, %s: %s over %s: %d", s, typ, show(b), show(a), e)
			}
			left, of, _ := checkParts(t, s, typ, a, l)
			checkLaws(t, s, typ, a, b, l)
			added, changed, removed = added+len(d.Added), changed+len(d.Changed), removed+len(d.Removed)
			n, _ := validate.Normal(s, typ, a)
			m, _ := validate.Normal(s, typ, b)
			for _, c := range []struct {
				is bool
				n  *int
			}{{same(n, m) && !same(a, b), &alike}, {!same(v, n) && !same(v, m), &merged}, {value.Depth(left) > 0 && !same(left, n), &dropped}, {value.Depth(of) > 0 && !same(of, n), &picked}} {
				if c.is {
					*c.n++
				}
			}
		}
	}
	if added < 1000 || changed < 300 || removed < 1000 || alike < 50 || merged < 200 || dropped < 200 || picked < 200 {
		t.Errorf("few of one sort: %d, %d, %d, %d, %d, %d, %d", added, changed, removed, alike, merged, dropped, picked)
	}
}

// Values that are spoilt, and lists of paths that are no sets: the errors and their order.
func TestManyFaults(t *testing.T) {
	r, seen := rand.New(rand.NewSource(132)), map[api.Errno]int{}
	for range 100 {
		s := pickSchema(r)
		for range 25 {
			typ := pickOf(r, names(s)...)
			a := pickValue(r, s, typ, 5)
			b, l := vary(r, s, typ, a, 5), roomy(pickPaths(r, s, typ, a))
			if r.Intn(3) == 0 {
				a = spoil(r, a)
			}
			if r.Intn(3) == 0 {
				b = spoil(r, b)
			}
			if r.Intn(3) == 0 && len(l) > 0 {
				l[r.Intn(len(l))] = api.Path{pickOf(r, api.Elem{}, api.Elem{Kind: 9}, field("\xff"), item(null), key())}
			}
			checkDiff(t, s, typ, a, b)
			_, e := checkMerge(t, s, typ, a, b)
			seen[e]++
			_, _, e = checkParts(t, s, typ, a, l)
			seen[e]++
		}
	}
	for _, e := range []api.Errno{api.OK, api.ErrValue, api.ErrShape, api.ErrNull, api.ErrPath, api.ErrSet, api.ErrLeaf} {
		if seen[e] < 50 {
			t.Errorf("few of one sort: %v", seen)
		}
	}
}

// answers is what all calls answer to two values and a set.
type answers struct {
	Diff                 api.Change
	Merge, Drop, Extract api.Value
}

func ask(s api.Schema, typ string, a, b api.Value, l []api.Path) answers {
	var x answers
	x.Diff, _ = Diff(s, typ, a, b)
	x.Merge, _ = Merge(s, typ, a, b)
	x.Drop, _ = Drop(s, typ, a, l)
	x.Extract, _ = Extract(s, typ, a, l)
	Same(s, typ, a, b)
	return x
}

// Whatever a call is given, spare room included, stays; whatever it answers is memory of its own.
func TestMemory(t *testing.T) {
	r, fine := rand.New(rand.NewSource(133)), 0
	for range 600 {
		s := pickSchema(r)
		typ := pickOf(r, names(s)...)
		a := pickValue(r, s, typ, 5)
		b, l := vary(r, s, typ, a, 5), pickSet(r, s, typ, a)
		if r.Intn(8) == 0 {
			b = spoil(r, b)
		}
		s, a, b, l = roomy(s), roomy(a), roomy(b), roomy(l)
		given := func() string { return whole(s) + whole(a) + whole(b) + whole(l) }
		was := given()
		one, two := ask(s, typ, a, b, l), ask(s, typ, a, b, l)
		if given() != was {
			t.Fatalf("P13.6: %s: a call changed what it was given: %s, %s, %s", typ, show(a), show(b), tell(l))
		}
		checkApart(t, "the answers", slices.Concat(rooms(s), rooms(a), rooms(b), rooms(l), rooms(one), rooms(two)))
		scribble(one)
		if three := ask(s, typ, a, b, l); !same(three, two) {
			t.Fatal("P13.6: what was written into an answer is seen in the next")
		}
		kept := roomy(two)
		for _, x := range []any{s, a, b, l} {
			scribble(x)
		}
		if !same(two, kept) {
			t.Fatal("P13.6: what was handed in is kept")
		}
		if len(two.Diff.Added) > 0 && len(two.Merge.Map)+len(two.Merge.List) > 1 && len(two.Extract.Map)+len(two.Extract.List) > 0 {
			fine++
		}
	}
	if fine < 50 {
		t.Errorf("few have answers that tell something: %d", fine)
	}
}
