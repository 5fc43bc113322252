package strategic_test

import (
	"fmt"
	"math/rand"
	"slices"
	"testing"

	"freehold/api"
	"freehold/compare"
	"freehold/leaves"
	"freehold/schema"
	"freehold/strategic"
	"freehold/validate"
)

// directed tells whether a patch has directives where it is read.
func directed(s api.Schema, typ string, p api.Value) bool {
	return slices.ContainsFunc(readings(s, typ, p, nil), func(x reading) bool {
		_, orders, _ := listed(x.t, x.p)
		return len(orders) > 0 || slices.ContainsFunc(x.p.Map, func(m api.Member) bool { return unreachable(m.Key) })
	})
}

// nulls is the paths at which a valid value has null outside of leaves.
func nulls(s api.Schema, typ string, v api.Value, p api.Path) []api.Path {
	t := follow(s, typ)
	if isLeaf(t) || t.Rel == api.Set {
		return nil
	}
	var l []api.Path
	for _, m := range v.Map {
		q := append(slices.Clone(p), api.Elem{Kind: api.ElemField, Name: m.Key})
		if m.Val.Kind == api.Null {
			l = append(l, q)
		} else {
			l = append(l, nulls(s, typeOfMember(t, m.Key), m.Val, q)...)
		}
	}
	for _, x := range v.List {
		e := api.Elem{Kind: api.ElemKey}
		for _, k := range t.Keys {
			e.Key = append(e.Key, at(k, keyOf(x, k)))
		}
		l = append(l, nulls(s, t.Elem, x, append(slices.Clone(p), e))...)
	}
	return l
}

// leavesOf is the leaves of a valid value.
func leavesOf(t *testing.T, s api.Schema, typ string, v api.Value) []api.Leaf {
	t.Helper()
	n, e := validate.Normal(s, typ, v)
	if e != api.OK {
		t.Fatalf("%s is not valid of %s: %d", show(v), typ, e)
	}
	l, e := leaves.Of(s, typ, n)
	if e != api.OK {
		t.Fatalf("%s has no leaves: %d", show(n), e)
	}
	return l
}

// checkLeaves holds what a valid patch without directives makes against the leaves; false, if it is none.
func checkLeaves(t *testing.T, s api.Schema, typ string, v, p, got api.Value) bool {
	t.Helper()
	if _, e := validate.Check(s, typ, p); e != api.OK || directed(s, typ, p) || isLeaf(follow(s, typ)) {
		return false
	}
	want := leaves.Drop(leaves.Put(leavesOf(t, s, typ, v), leavesOf(t, s, typ, p)), nulls(s, typ, p, nil))
	if _, e := validate.Check(s, typ, got); e != api.OK || !same(leavesOf(t, s, typ, got), want) {
		t.Fatalf("P18.5: %s by %s for %s = %s (%d), want the leaves %+v; schema %s", show(v), show(p), typ, show(got), e, want, tell(s))
	}
	return true
}

// checkTwice holds what the same patch makes of a normal form; false, if there is none.
func checkTwice(t *testing.T, s api.Schema, typ string, p, got api.Value) bool {
	t.Helper()
	n, e := validate.Normal(s, typ, got)
	if e != api.OK {
		return false
	}
	again, e := checkApply(t, s, typ, n, p)
	m, f := validate.Normal(s, typ, again)
	if e != api.OK || f != api.OK || !same(m, n) {
		t.Fatalf("P18.6: %s by %s for %s = %s, %d, %d; schema %s", show(n), show(p), typ, show(again), e, f, tell(s))
	}
	return true
}

// checkLaws holds a patch against the second reading and against P18.5 and P18.6, and counts what it met.
func checkLaws(t *testing.T, s api.Schema, typ string, v, p api.Value, seen map[string]int) (api.Value, api.Errno) {
	t.Helper()
	got, e := checkApply(t, s, typ, v, p)
	seen[fmt.Sprint(e)]++
	if e != api.OK {
		return got, e
	}
	if holds(follow(s, typ)) && keyOf(p, "$patch").Str == "replace" {
		if x, e := checkApply(t, s, typ, object(), p); e != api.OK || !same(x, got) {
			t.Fatalf("P18.6: %s replaces %s: %s; and nothing: %s, %d", show(p), show(v), show(got), show(x), e)
		}
		seen["replaced"]++
	}
	if checkTwice(t, s, typ, p, got) {
		seen["valid"]++
	}
	if checkLeaves(t, s, typ, v, p, got) {
		seen["leaves"]++
	}
	if !same(got, v) {
		seen["changed"]++
	}
	return got, e
}

// named tells whether a path goes through a key, or by a key field, that no patch can reach.
func named(p api.Path) bool {
	return slices.ContainsFunc(p, func(e api.Elem) bool {
		return unreachable(e.Name) || slices.ContainsFunc(e.Key, func(m api.Member) bool { return unreachable(m.Key) })
	})
}

// outOfReach tells by the leaves whether no patch leads from a to b: what comes or changes is told by its whole path, what goes by the first of its beginnings at which nothing is left.
func outOfReach(t *testing.T, s api.Schema, typ string, a, b api.Value) bool {
	t.Helper()
	d, e := compare.Diff(s, typ, a, b)
	if e != api.OK {
		t.Fatal(e)
	}
	left := leavesOf(t, s, typ, b)
	return slices.ContainsFunc(slices.Concat(d.Added, d.Changed), named) || slices.ContainsFunc(d.Removed, func(p api.Path) bool {
		n := 1
		for n < len(p) && len(leaves.Under(left, p[:n])) > 0 {
			n++
		}
		return named(p[:n])
	})
}

// checkWay holds the patch between two normal values against the second reading and against P18.4.
func checkWay(t *testing.T, s api.Schema, typ string, a, b api.Value) (api.Value, api.Errno) {
	t.Helper()
	p, e := checkDiff(t, s, typ, a, b)
	if far := outOfReach(t, s, typ, a, b); far != (e == api.ErrDirective) || !far && e != api.OK {
		t.Fatalf("P18.3: from %s to %s of %s: %d; out of reach: %v; schema %s", show(a), show(b), typ, e, far, tell(s))
	}
	if e != api.OK {
		return p, e
	}
	got, e := checkApply(t, s, typ, a, p)
	n, f := validate.Normal(s, typ, got)
	if e != api.OK || f != api.OK || !same(n, b) {
		t.Fatalf("P18.4: %s by %s for %s: %s, %d, %d, want %s; schema %s", show(a), show(p), typ, show(got), e, f, show(b), tell(s))
	}
	return p, e
}

// Picked patches of picked types.
func TestManyPatches(t *testing.T) {
	r, seen := rand.New(rand.NewSource(181)), map[string]int{}
	for n := range 160 {
		s := pickSchema(r, n%4 == 0)
		if e := schema.Check(s); e != api.OK {
			t.Fatalf("a picked schema: %d", e)
		}
		for range 30 {
			typ, v := pickNormal(r, s)
			checkLaws(t, s, typ, v, pickPatch(r, s, typ, 4, pickOf(r, 0, 0, 1, 10)), seen)
			checkLaws(t, s, typ, v, pickOf(r, pickValue(r, s, typ, 4), vary(r, s, typ, v), shake(r, v)), seen)
		}
	}
	for _, what := range []string{"0", "180", "replaced", "valid", "leaves", "changed"} {
		if seen[what] < 80 {
			t.Errorf("few of one sort: %v", seen)
		}
	}
}

// The patches between picked values.
func TestManyDiffs(t *testing.T) {
	r, seen := rand.New(rand.NewSource(182)), map[string]int{}
	for n := range 120 {
		s := pickSchema(r, n%4 == 0)
		for range 25 {
			typ, a := pickNormal(r, s)
			b := vary(r, s, typ, a)
			p, e := checkWay(t, s, typ, a, b)
			seen[fmt.Sprint(e)]++
			checkWay(t, s, typ, b, a)
			if e == api.OK && directed(s, typ, p) {
				seen["directed"]++
			}
			if e == api.OK && !same(a, b) {
				seen["parts"]++
			}
			if _, e := checkWay(t, s, typ, a, a); e != api.OK {
				t.Fatalf("P18.4: from %s to itself: %d", show(a), e)
			}
		}
	}
	for _, what := range []string{"0", "180", "directed", "parts"} {
		if seen[what] < 100 {
			t.Errorf("few of one sort: %v", seen)
		}
	}
}

// What is handed in spoilt: the errors and their order.
func TestManyFaults(t *testing.T) {
	r, seen := rand.New(rand.NewSource(183)), map[string]int{}
	for n := range 200 {
		s := pickSchema(r, n%4 == 0)
		for range 30 {
			typ, v := pickNormal(r, s)
			w, p := vary(r, s, typ, v), pickPatch(r, s, typ, 4, 5)
			if r.Intn(3) == 0 {
				v = pickOf(r, spoil(r, v), shake(r, v))
			}
			if r.Intn(3) == 0 {
				w = pickOf(r, spoil(r, w), shake(r, w))
			}
			if r.Intn(3) == 0 {
				p = spoil(r, p)
			}
			if r.Intn(30) == 0 {
				typ = "no such type"
			}
			x := s
			if r.Intn(30) == 0 {
				x.Types = slices.Concat(s.Types, s.Types[:1])
			}
			checkApply(t, x, typ, w, p)
			_, e := checkApply(t, x, typ, v, p)
			seen["apply "+fmt.Sprint(e)]++
			_, e = checkDiff(t, x, typ, v, w)
			seen["diff "+fmt.Sprint(e)]++
		}
	}
	for _, call := range []string{"apply ", "diff "} {
		for _, e := range []api.Errno{api.OK, api.ErrSchemaName, api.ErrSchemaRef, api.ErrValue, api.ErrShape, api.ErrField, api.ErrNull, api.ErrLeaf, api.ErrDirective} {
			if seen[call+fmt.Sprint(e)] < 8 {
				t.Errorf("few of one sort: %v", seen)
			}
		}
	}
}

// choice is a member of a patch, or of a value, and all that it may say; the empty text is that it is not there.
type choice struct {
	key  string
	says []string
}

// every is all maps with one of what each choice says.
func every(l ...choice) []string {
	all := []string{""}
	for _, c := range l {
		var more []string
		for _, head := range all {
			for _, x := range c.says {
				if x == "" {
					more = append(more, head)
				} else {
					more = append(more, head+`,"`+c.key+`":`+x)
				}
			}
		}
		all = more
	}
	for i, x := range all {
		if x != "" {
			x = x[1:]
		}
		all[i] = "{" + x + "}"
	}
	return all
}

// Every small patch of every small value.
func TestEveryPatch(t *testing.T) {
	seen, n := map[string]int{}, 0
	values := every(choice{"a", []string{"", "1"}}, choice{"l", []string{"", `[{"id":1}]`, `[{"id":1,"x":"q"},{"id":2}]`}}, choice{"s", []string{"", `["p"]`, `["p","q"]`}})
	patches := every(
		choice{"a", []string{"", "null", "5"}},
		choice{"$patch", []string{"", `"merge"`, `"replace"`, `"delete"`, `"x"`}},
		choice{"$delete/s", []string{"", `[]`, `["p"]`, `["q",5]`, "null"}},
		choice{"s", []string{"", "null", `[]`, `["q","q"]`, `["q",{"$patch":"replace"}]`, `5`}},
		choice{"l", []string{"", "null", `[]`, `[{"id":1,"x":"r"}]`, `[{"$patch":"delete","id":1},{"id":3}]`, `[{"id":1,"x":"r"},{"id":1,"x":null}]`, `[{"$patch":"replace"},{"id":1},{"$patch":"replace","id":2,"x":""}]`, `[{"$patch":"delete","id":1,"x":"r"}]`, `[{"x":"r"}]`}},
	)
	for _, v := range values {
		for _, p := range patches {
			if n++; n%4 == 0 {
				checkLaws(t, example(), "T", read(v), read(p), seen)
			}
		}
		for _, w := range values {
			checkWay(t, example(), "T", read(v), read(w))
		}
	}
	for _, what := range []string{"0", "180", "replaced", "valid", "leaves", "changed"} {
		if seen[what] < 100 {
			t.Errorf("few of one sort: %v", seen)
		}
	}
}

// answers is what both calls that answer values answer.
type answers struct{ Patched, Patch api.Value }

func ask(s api.Schema, typ string, v, w, p api.Value) answers {
	var x answers
	strategic.Check(s, typ, p)
	x.Patched, _ = strategic.Apply(s, typ, v, p)
	x.Patch, _ = strategic.Diff(s, typ, v, w)
	return x
}

// Whatever a call is given, spare room included, stays; whatever it answers is memory of its own.
func TestMemory(t *testing.T) {
	r, fine := rand.New(rand.NewSource(184)), 0
	for n := range 800 {
		s := pickSchema(r, n%8 == 0)
		typ, v := pickNormal(r, s)
		w, p := vary(r, s, typ, v), pickPatch(r, s, typ, 4, 1)
		if r.Intn(10) == 0 {
			v = spoil(r, v)
		}
		s, v, w, p = roomy(s), roomy(v), roomy(w), roomy(p)
		given := func() string { return whole(s) + whole(v) + whole(w) + whole(p) }
		was := given()
		one, two := ask(s, typ, v, w, p), ask(s, typ, v, w, p)
		if given() != was {
			t.Fatalf("P18.7: a call changed what it was given: %s, %s, %s", show(v), show(w), show(p))
		}
		checkApart(t, "the answers", slices.Concat(rooms(s), rooms(v), rooms(w), rooms(p), rooms(one), rooms(two)))
		scribble(one)
		if three := ask(s, typ, v, w, p); !same(three, two) {
			t.Fatal("P18.7: what was written into an answer is seen in the next")
		}
		kept := roomy(two)
		for _, x := range []any{s, v, w, p} {
			scribble(x)
		}
		if !same(two, kept) {
			t.Fatal("P18.7: what was handed in is kept")
		}
		if len(rooms(two.Patched)) > 2 && len(rooms(two.Patch)) > 2 {
			fine++
		}
	}
	if fine < 100 {
		t.Errorf("few have answers that tell something: %d", fine)
	}
}
