package pathset

import (
	"math/rand"
	"slices"
	"strings"
	"testing"

	"freehold/api"
	"freehold/path"
)

// small is some paths that lie above, below and beside each other, rising.
func small() []api.Path {
	return []api.Path{nil, steps("a"), steps("a", "b"), {field("a"), item(num(1))}, steps("b"), {key(at("k", num(1)))}, {key(at("k", num(1))), field("x")}}
}

// subsets is every set of some paths.
func subsets(l []api.Path) [][]api.Path {
	var sets [][]api.Path
	for bits := range 1 << len(l) {
		var s []api.Path
		for i, p := range l {
			if bits>>i&1 == 1 {
				s = append(s, p)
			}
		}
		sets = append(sets, s)
	}
	return sets
}

// Every set of a few paths, and every two of these.
func TestEverySet(t *testing.T) {
	sets := subsets(small())
	for _, a := range sets {
		for _, p := range append(small(), steps("c"), steps("a", "b", "c"), steps("a", "c"), api.Path{{}}) {
			if e := checkList(t, a, p); e != api.OK {
				t.Fatalf("P10.1: Check(%s) = %d", show(a...), e)
			}
		}
		for _, b := range sets {
			checkTwo(t, a, b)
		}
	}
}

// Every short list of a few paths and one that is none, whether it is a set or not.
func TestEveryShortList(t *testing.T) {
	some := append(small()[:5:5], api.Path{{Kind: api.ElemField, Name: "\xff"}})
	var lists [][]api.Path
	var each func(l []api.Path, n int)
	each = func(l []api.Path, n int) {
		lists = append(lists, l)
		for _, p := range some {
			if n > 0 {
				each(append(slices.Clone(l), p), n-1)
			}
		}
	}
	each(nil, 3)
	seen := map[api.Errno]int{}
	for i, l := range lists {
		for _, p := range some {
			seen[checkList(t, l, p)]++
		}
		for _, m := range lists[i%5:] {
			if len(l)+len(m) <= 4 {
				checkTwo(t, l, m)
			}
		}
	}
	if len(seen) != 3 || seen[api.OK] < 50 {
		t.Errorf("few of one sort: %v", seen)
	}
}

// Each change of a tree from every set of a few paths, whatever order they came in.
func TestEveryTree(t *testing.T) {
	r := rand.New(rand.NewSource(101))
	about := append(small(), steps("c"), steps("a", "b", "c"), steps("a", "c"), api.Path{{}})
	for _, l := range subsets(small()) {
		for _, op := range treeOps {
			for _, p := range about {
				x, s := New(), set{}
				for _, i := range r.Perm(len(l)) {
					treeOps[0](t, x, s, l[i])
				}
				op(t, x, s, p)
				checkTree(t, x, s, about...)
				op(t, x, s, p)
				checkTree(t, x, s, p)
			}
		}
	}
}

// Picked sets and lists against the second reading.
func TestManySets(t *testing.T) {
	r, empty := rand.New(rand.NewSource(102)), 0
	for range 1500 {
		a := pickSet(r, 20)
		b := pickSet(r, 20, a...)
		p := pickPath(r)
		if len(a) > 0 && r.Intn(8) > 0 {
			p = near(r, pickOf(r, a...))
		}
		checkList(t, a, p)
		checkTwo(t, a, b)
		checkTwo(t, b, a)
		if l, _ := Below(a, p); len(l) == 0 {
			empty++
		}
		spoilt := slices.Clone(a)
		if len(a) > 0 {
			i, k := r.Intn(len(a)), r.Intn(len(a))
			spoilt[i] = pickOf(r, spoil(r, a[i]), a[k], near(r, a[k]))
		}
		checkList(t, spoilt, p)
		checkTwo(t, spoilt, b)
		checkTwo(t, b, spoilt)
	}
	if empty > 1300 {
		t.Errorf("few have something below: %d have not", empty)
	}
}

// must is the answer of a call that has no fault to tell.
func must(t *testing.T) func(l []api.Path, e api.Errno) []api.Path {
	return func(l []api.Path, e api.Errno) []api.Path {
		t.Helper()
		if e != api.OK || Check(l) != api.OK {
			t.Fatalf("P10.3: no set: %s, %d", show(l...), e)
		}
		return l
	}
}

func TestLawsOfSets(t *testing.T) {
	r := rand.New(rand.NewSource(103))
	for range 1000 {
		a := pickSet(r, 30)
		b := pickSet(r, 20, a...)
		c := pickSet(r, 10, slices.Concat(a, b)...)
		set := must(t)
		for _, do := range []func(a, b []api.Path) ([]api.Path, api.Errno){Union, Meet} {
			if !same(set(do(a, b)), set(do(b, a))) {
				t.Fatalf("P10.6: not the same both ways: %s, %s", show(a...), show(b...))
			}
			if !same(set(do(set(do(a, b)), c)), set(do(a, set(do(b, c))))) {
				t.Fatalf("P10.6: not the same in any grouping: %s, %s, %s", show(a...), show(b...), show(c...))
			}
			if !same(set(do(a, a)), a) {
				t.Fatalf("P10.6: %s with itself", show(a...))
			}
		}
		minus, meet := set(Minus(a, b)), set(Meet(a, b))
		if !same(set(Union(minus, meet)), a) || len(set(Meet(minus, meet))) != 0 {
			t.Fatalf("P10.6: Minus and Meet of %s, %s", show(a...), show(b...))
		}
		for _, x := range [][]api.Path{a, b, meet, minus} {
			for _, y := range [][]api.Path{a, b, meet, minus} {
				if in, e := Within(x, y); e != api.OK || in != (len(set(Minus(x, y))) == 0) || in != same(set(Union(x, y)), y) {
					t.Fatalf("P10.6: Within(%s, %s) = %v", show(x...), show(y...), in)
				}
			}
		}
		for _, p := range a {
			if Has(minus, p) == Has(b, p) || Has(meet, p) != Has(b, p) {
				t.Fatalf("P10.6: %s of %s, and %s", show(p), show(a...), show(b...))
			}
		}
	}
}

// Of a list, in whatever order and however often each stands there, is one list; so is All of a tree.
func TestOneListASet(t *testing.T) {
	r := rand.New(rand.NewSource(104))
	for range 600 {
		l := pickSet(r, 20)
		want := slices.Clone(l)
		for _, p := range l {
			for range r.Intn(3) {
				l = append(l, p)
			}
		}
		for range 3 {
			r.Shuffle(len(l), func(i, k int) { l[i], l[k] = l[k], l[i] })
			if got, e := Of(l); e != api.OK || !same(got, want) {
				t.Fatalf("P10.6: Of(%s) = %s, %d", show(l...), show(got...), e)
			}
			x := New()
			for _, p := range l {
				x.Add(p)
			}
			if got := x.All(); !same(got, want) {
				t.Fatalf("P10.6: All = %s, want %s", show(got...), show(want...))
			}
		}
	}
}

// What lies at or below a path stands side by side; ends have nothing below one another, and each path is at or above one.
func TestBelowAndEnds(t *testing.T) {
	r := rand.New(rand.NewSource(105))
	for range 600 {
		l := pickSet(r, 30)
		for _, p := range l {
			p = p[:r.Intn(len(p)+1)]
			first := slices.IndexFunc(l, func(q api.Path) bool { return path.Above(p, q) })
			row := must(t)(Below(l, p))
			if Has(l, p) {
				row = append([]api.Path{p}, row...)
			}
			if !same(l[first:first+len(row)], row) {
				t.Fatalf("P10.7: at and below %s of %s: %s", show(p), show(l...), show(row...))
			}
		}
		ends := must(t)(Ends(l))
		for _, p := range ends {
			if len(must(t)(Below(ends, p))) != 0 || len(must(t)(Below(l, p))) != 0 || !Has(l, p) {
				t.Fatalf("P10.7: %s is an end of %s", show(p), show(l...))
			}
		}
		for _, p := range l {
			if !slices.ContainsFunc(ends, func(q api.Path) bool { return path.Above(p, q) }) {
				t.Fatalf("P10.7: %s of %s is above no end", show(p), show(l...))
			}
		}
		if again := must(t)(Ends(ends)); !same(again, ends) {
			t.Fatalf("P10.7: the ends of ends %s: %s", show(ends...), show(again...))
		}
	}
}

// nodes counts the nodes below one.
func nodes(n *node) int {
	count := 0
	for _, kid := range n.kids {
		count += 1 + nodes(kid)
	}
	return count
}

// A tree through many changes: it holds the set, and no more nodes than lead to its paths.
func TestManyChanges(t *testing.T) {
	r := rand.New(rand.NewSource(106))
	for round := range 60 {
		l := pickSet(r, 40)
		x, s := New(), set{}
		for range 150 {
			p := pickPath(r)
			if len(l) > 0 && r.Intn(6) > 0 {
				p = pickOf(r, l...)
				p = p[:len(p)-min(len(p), r.Intn(3)*r.Intn(2))]
			}
			if r.Intn(12) == 0 {
				p = spoil(r, p)
			}
			op := pickOf(r, 0, 0, 0, 0, 0, 0, 1, 1, 2)
			if round%3 == 0 {
				op = pickOf(r, 0, 0, 1, 1, 1, 2)
			}
			treeOps[op](t, x, s, p)
			checkTree(t, x, s, p)
			leads := map[string]bool{}
			for _, q := range s {
				for n := range q {
					leads[pathBytes(q[:n+1])] = true
				}
			}
			if n := nodes(&x.root); n != len(leads) {
				t.Fatalf("a tree of %s has %d nodes, want %d", show(s.list(all)...), n, len(leads))
			}
		}
		checkTree(t, x, s, l...)
	}
}

// Whatever a call is given, spare room included, stays; whatever it answers is memory of its own.
func TestMemory(t *testing.T) {
	r := rand.New(rand.NewSource(107))
	for range 150 {
		a := roomy(append(pickSet(r, 8), api.Path{item(truth(true)), key(at("k", num(1)))}))
		b := roomy(append(pickSet(r, 8, a...), api.Path{item(text("x"))}))
		a, b = roomy(must(t)(Of(a))), roomy(must(t)(Of(b)))
		p := pickOf(r, a...)
		p = roomy(p[:min(1, len(p))])
		was := whole(a) + whole(b) + whole(p)
		calls := []func() []api.Path{
			func() []api.Path { l, _ := Of(a); return l },
			func() []api.Path { l, _ := Of(append(slices.Clone(a), b...)); return l },
			func() []api.Path { l, _ := Union(a, b); return l },
			func() []api.Path { l, _ := Union(a, a); return l },
			func() []api.Path { l, _ := Meet(a, b); return l },
			func() []api.Path { l, _ := Minus(a, b); return l },
			func() []api.Path { l, _ := Minus(a, nil); return l },
			func() []api.Path { l, _ := Below(a, p); return l },
			func() []api.Path { l, _ := Below(a, nil); return l },
			func() []api.Path { l, _ := Ends(a); return l },
		}
		answers := [][]api.Path{a, b, append(make([]api.Path, 0, 1), p)}
		for i, call := range calls {
			one, two := call(), call()
			answers = append(answers, one, two)
			scribble(one)
			if three := call(); !same(two, three) {
				t.Fatalf("P10.8: call %d: what was written into an answer is seen in the next", i)
			}
		}
		Check(a)
		Has(a, p)
		Within(a, b)
		var lists []room // asked for when all answers are there: memory that none of them holds any more may be used again
		for _, l := range answers {
			lists = append(lists, rooms(l)...)
		}
		checkApart(t, "the answers", lists)
		if whole(a)+whole(b)+whole(p) != was {
			t.Fatal("P10.8: a call changed what it was given")
		}
	}
}

func TestMemoryOfTrees(t *testing.T) {
	r := rand.New(rand.NewSource(108))
	for range 150 {
		l := append(pickSet(r, 12), api.Path{key(at("k", num(1)), at("l", text("x"))), item(truth(true))})
		x, s := New(), set{}
		for _, p := range l {
			s[pathBytes(p)] = p
			q := roomy(p)
			was := whole(q)
			x.Add(q)
			x.Has(q)
			x.Any(q)
			x.Drop(q)
			x.Add(q)
			if whole(q) != was {
				t.Fatal("P10.8: a call changed what it was given")
			}
			scribble(q)
		}
		checkTree(t, x, s, l...)
		one, two := x.All(), x.All()
		checkApart(t, "the answers of All", slices.Concat(rooms(one), rooms(two)))
		scribble(one)
		checkTree(t, x, s, l...)
		q := pickOf(r, l...)
		q = roomy(q[:min(1, len(q))])
		was := whole(q)
		treeOps[2](t, x, s, q)
		if whole(q) != was {
			t.Fatal("P10.8: DropBelow changed what it was given")
		}
		checkTree(t, x, s, l...)
	}
}

// The room of what is handed in is in no answer, also where it is empty.
func TestEmptyRoom(t *testing.T) {
	a := roomy([]api.Path{{field("a"), key(at("k", num(1))), item(text("x"))}})
	x := New()
	x.Add(a[0])
	union, _ := Union(a, a)
	meet, _ := Meet(a, a)
	minus, _ := Minus(a, nil)
	below, _ := Below(a, nil)
	ends, _ := Ends(a)
	of, _ := Of(a)
	for _, l := range [][]api.Path{union, meet, minus, below, ends, of, x.All()} {
		for _, e := range l[0] {
			if cap(e.Item.List)+cap(e.Item.Map) > 0 || e.Kind != api.ElemKey && cap(e.Key) > 0 || e.Kind == api.ElemKey && cap(e.Key[0].Val.List)+cap(e.Key[0].Val.Map) > 0 {
				t.Errorf("P10.8: an empty list of %+v has room", e)
			}
		}
	}
}

// Two trees have nothing in common.
func TestTreesApart(t *testing.T) {
	x, y := New(), New()
	x.Add(steps("a"))
	if y.Len() != 0 || y.Any(nil) {
		t.Error("P10.5: a new tree holds something")
	}
	y.Add(steps("b"))
	if x.Len() != 1 || x.Any(steps("b")) {
		t.Error("P10.5: what one tree was given is seen in another")
	}
}

// many is so many paths, rising.
func many(n int) []api.Path {
	var l []api.Path
	for i := range n {
		l = append(l, api.Path{field("spec"), key(at("id", num(i/2))), field([]string{"a", "b"}[i%2])})
	}
	return l
}

// Large sets are joined in one walk, and a long path among many short ones is not gone through at each step.
func TestLarge(t *testing.T) {
	a := many(100000)
	var odd []api.Path
	for i := 1; i < len(a); i += 2 {
		odd = append(odd, a[i])
	}
	long := append(slices.Clone(odd), api.Path{field(strings.Repeat("z", 8<<20)), item(num(1))})
	for _, c := range []struct {
		do   func(a, b []api.Path) ([]api.Path, api.Errno)
		want int
	}{{Union, len(a) + 1}, {Meet, len(odd)}, {Minus, len(a) - len(odd)}} {
		if l, e := c.do(a, long); e != api.OK || len(l) != c.want {
			t.Errorf("P10.3: %d paths, %d, want %d", len(l), e, c.want)
		}
	}
	if in, e := Within(odd, a); !in || e != api.OK {
		t.Errorf("P10.3: Within = %v, %d", in, e)
	}
	last := long[len(long)-1]
	if l, e := Below(long, last[:1]); e != api.OK || len(l) != 1 || !Has(long, last) {
		t.Errorf("P10.4: Below = %d paths, %d", len(l), e)
	}
	if l, e := Ends(long); e != api.OK || len(l) != len(long) {
		t.Errorf("P10.4: Ends = %d paths, %d", len(l), e)
	}
}

func TestLargeTree(t *testing.T) {
	r, a, x := rand.New(rand.NewSource(109)), many(60000), New()
	for _, i := range r.Perm(len(a)) {
		if ok, e := x.Add(a[i]); !ok || e != api.OK {
			t.Fatalf("P10.5: Add = %v, %d", ok, e)
		}
	}
	if !same(x.All(), a) || x.Len() != len(a) {
		t.Fatal("P10.6: All of a large tree")
	}
	for i := range a { // Any needs but the first, however many there are
		if !x.Any(nil) || !x.Any(a[i][:1]) || !x.Any(a[i][:2]) || !x.Has(a[i]) {
			t.Fatalf("P10.5: Any of %s", show(a[i]))
		}
	}
	if n, e := x.DropBelow(a[0][:1]); n != len(a) || e != api.OK || x.Len() != 0 || nodes(&x.root) != 0 {
		t.Errorf("P10.5: DropBelow = %d, %d", n, e)
	}
}
