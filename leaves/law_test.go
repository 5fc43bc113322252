package leaves

import (
	"math/rand"
	"slices"
	"testing"

	"freehold/api"
	"freehold/schema"
	"freehold/validate"
	"freehold/value"
)

// subsets is all choices of some leaves, each in their order.
func subsets(l []api.Leaf) [][]api.Leaf {
	var all [][]api.Leaf
	for bits := range 1 << len(l) {
		var some []api.Leaf
		for i, x := range l {
			if bits>>i&1 == 1 {
				some = append(some, x)
			}
		}
		all = append(all, some)
	}
	return all
}

// Every choice of leaves that lie beside, above and below each other.
func TestEveryChoice(t *testing.T) {
	seen := map[api.Errno]int{}
	for typ, l := range map[string][]api.Leaf{
		"T":  row(".a 1", ".l[id=2]", `.l[id=2].x "q"`, ".l[id=3]", `.l[id=3].x ""`, `.m."" ""`, `.m.k "v"`, `.s[="o"]`, `.s[="p"]`, ".w []"),
		"Ps": row("[b=1,p=false]", `[b=1,p=false].a ""`, "[b=1,p=false].ps[b=1,p=false]", `[b=1,p=false].ps[b=1,p=false].m.k "v"`, "[b=1,p=false].ps[b=2,p=true]", "[b=1,p=true]", "[b=1,p=true].ps[b=1,p=false]", `[b=1,p=true].q "z"`, "[b=2,p=false]"),
		"U":  row(".at {}", ".bs[=false]", ".bs[=true]", ".c 1", ".e.id 1", `.fm {"k":{}}`, ".n.n.n.a 1", ".o.l[id=1]", `.o.l[id=1].x "y"`, ".t.l[id=1]"),
	} {
		for _, some := range subsets(l) {
			v, e := checkValue(t, example(), typ, some)
			seen[e]++
			if e == api.OK && !same(checkBack(t, example(), typ, v), some) {
				t.Fatalf("P12.4: the leaves of the value of %s", tell(some))
			}
		}
	}
	if len(seen) != 2 || seen[api.OK] < 500 || seen[api.ErrLeaf] < 500 {
		t.Errorf("few of one sort: %v", seen)
	}
}

// Every short list of leaves, right ones and wrong ones, in any order: the first that hinders.
func TestEveryShortList(t *testing.T) {
	for typ, some := range map[string][]api.Leaf{
		"T":    append(row(".a 1", `.a ""`, ".l[id=1]", ".l[id=1] 1", ".l[id=1].id 1", `.l[id=1].x ""`, ".l[id=2]", `.m.k ""`, ".s[=1]", `.s[="p"]`, ".w []"), api.Leaf{Path: api.Path{{}}}),
		"Ps":   row("", "[b=1,p=true]", "[b=1,p=true].b 1", "[b=1,p=true].ps[b=1,p=true]", `[b=1,p=true].ps[b=1,p=true].q ""`, "[b=2,p=true].ps[b=1,p=true]", "[b=2,p=true]"),
		"int":  row(" 1", "", ` ""`, ".a 1", "[=1]"),
		"W":    row(" []", " [1]", " [null]", " {}", "[=1]"),
		"Cs":   row("[=-1]", "[=1]", "[=2]", "[=3]", "[=1] 1", " []"),
		"Bag":  row(".a", ".a {}", ".a.a 1", ".a.b 1", ".b.l[id=1]", `.b.l[id=1].x ""`),
		"Nope": row(".a 1"),
	} {
		var each func(l []api.Leaf, n int)
		each = func(l []api.Leaf, n int) {
			checkValue(t, example(), typ, l)
			for _, x := range some {
				if n > 0 {
					each(append(slices.Clone(l), x), n-1)
				}
			}
		}
		each(nil, 4)
	}
}

// Every two choices of a few leaves, and every choice of paths.
func TestEveryRow(t *testing.T) {
	low := subsets(row(".a 1", ".l[id=1]", `.l[id=1].x ""`, ".l[id=2]", ".s[=1]", ".s[=2]"))
	high := subsets(row(".a 2", ".b 2", ".l[id=1]", `.l[id=1].x "2"`, ".l[id=3]", ".s[=2]"))
	paths := append(Paths(row("", ".a", ".b", ".l", ".l[id=1]", ".l[id=1].x", ".l[id=3]", ".s", ".s[=2]")), api.Path{{}})
	for _, l := range low {
		for _, m := range high {
			checkPut(t, l, m)
		}
		for _, p := range paths {
			checkPath(t, l, p)
		}
		for bits := range 1 << len(paths) {
			var out []api.Path
			for i, p := range paths {
				if bits>>i&1 == 1 {
					out = append(out, p)
				}
			}
			if bits%3 == 0 { // in whatever order they stand
				slices.Reverse(out)
			}
			checkDrop(t, l, out)
		}
	}
}

// Picked values of picked types, there and back; what is spoilt of them; leaves that are spoilt.
func TestManyValues(t *testing.T) {
	r, of, back := rand.New(rand.NewSource(121)), map[api.Errno]int{}, map[api.Errno]int{}
	for range 150 {
		s := pickSchema(r)
		if e := schema.Check(s); e != api.OK {
			t.Fatalf("a picked schema: %d", e)
		}
		for range 25 {
			typ := pickOf(r, names(s)...)
			v := pickValue(r, s, typ, 5)
			_, e := checkOf(t, s, typ, v)
			of[e]++
			n, _ := validate.Normal(s, typ, v)
			l := checkBack(t, s, typ, n)
			_, e = checkOf(t, s, pickOf(r, names(s)...), n)
			of[e]++
			for range 4 {
				m := spoil(r, l)
				if r.Intn(3) == 0 {
					m = spoil(r, m)
				}
				w, e := checkValue(t, s, typ, m)
				back[e]++
				if e == api.OK && !same(checkBack(t, s, typ, w), m) {
					t.Fatalf("P12.4: %+v, %s: the leaves of the value of %s", s, typ, tell(m))
				}
			}
		}
	}
	if of[api.OK] < 1000 || of[api.ErrLeaf] < 1000 || of[api.ErrShape] < 500 || back[api.OK] < 1000 || back[api.ErrLeaf] < 5000 {
		t.Errorf("few of one sort: %v, %v", of, back)
	}
}

// pickPaths is paths of leaves, near them, and above them, in no order, some of them none.
func pickPaths(r *rand.Rand, l []api.Leaf) []api.Path {
	var ps []api.Path
	for range r.Intn(6) {
		if len(l) == 0 {
			return append(ps, nil)
		}
		p := pickOf(r, l...).Path
		ps = append(ps, pickOf(r, p, p[:r.Intn(len(p)+1)], near(r, p)))
	}
	return ps
}

// Two values of a type: they are the same just if their leaves are; their leaves together are a value's; so is what is left of them.
func TestMerging(t *testing.T) {
	r, alike, changed, dropped := rand.New(rand.NewSource(122)), 0, 0, 0
	for range 200 {
		s := pickSchema(r)
		for range 20 {
			typ := pickOf(r, names(s)...)
			a := pickNormal(r, s, typ, 1+r.Intn(4))
			b := pickNormal(r, s, typ, 1+r.Intn(4))
			l, m := checkBack(t, s, typ, a), checkBack(t, s, typ, b)
			if same(l, m) != value.Equal(a, b) {
				t.Fatalf("P12.4: %+v, %s: %s and %s", s, typ, show(a), show(b))
			} else if same(l, m) {
				alike++
			}
			both := checkPut(t, l, m)
			v, e := checkValue(t, s, typ, both)
			if e != api.OK || !same(checkBack(t, s, typ, v), both) {
				t.Fatalf("P12.5: %+v, %s: %s laid over %s: %d", s, typ, show(b), show(a), e)
			}
			if !same(v, a) && !same(v, b) {
				changed++
			}
			ps := pickPaths(r, both)
			left := checkDrop(t, both, ps)
			for _, p := range ps {
				checkPath(t, both, p)
			}
			if isLeaf(follow(s, typ)) {
				continue
			}
			if v, e := checkValue(t, s, typ, left); e != api.OK || !same(checkBack(t, s, typ, v), left) {
				t.Fatalf("P12.5: %+v, %s: %s without %+v: %d", s, typ, tell(both), ps, e)
			}
			if n := len(left); n > 0 && n < len(both) {
				dropped++
			}
		}
	}
	if alike < 200 || changed < 500 || dropped < 400 {
		t.Errorf("few of one sort: %d, %d, %d", alike, changed, dropped)
	}
}

// answers is what all calls answer to a value, leaves and paths.
type answers struct {
	of                []api.Leaf
	value, get        api.Value
	put, drop, under  []api.Leaf
	paths             []api.Path
	at                int
	is                bool
	ofError, valError api.Errno
}

func ask(s api.Schema, typ string, v api.Value, l, m []api.Leaf, ps []api.Path) answers {
	var a answers
	a.of, a.ofError = Of(s, typ, v)
	a.value, a.at, a.valError = Value(s, typ, l)
	for _, p := range ps {
		a.get, a.is = Get(l, p)
		a.under = Under(l, p)
	}
	a.put, a.drop, a.paths = Put(l, m), Drop(l, ps), Paths(l)
	return a
}

// lists is the memory of all answers.
func (a answers) lists() []room {
	return slices.Concat(rooms(a.of), rooms(a.value), rooms(a.get), rooms(a.put), rooms(a.drop), rooms(a.under), rooms(a.paths))
}

func (a answers) same(b answers) bool {
	return same(a.of, b.of) && same(a.value, b.value) && same(a.get, b.get) && same(a.put, b.put) && same(a.drop, b.drop) && same(a.under, b.under) && same(a.paths, b.paths) && a.at == b.at && a.is == b.is && a.ofError == b.ofError && a.valError == b.valError
}

// again is the answers in memory of their own.
func (a answers) again() answers {
	a.of, a.value, a.get, a.put, a.drop, a.under, a.paths = roomy(a.of), roomy(a.value), roomy(a.get), roomy(a.put), roomy(a.drop), roomy(a.under), roomy(a.paths)
	return a
}

func (a answers) scribble() {
	for _, x := range []any{a.of, a.value, a.get, a.put, a.drop, a.under, a.paths} {
		scribble(x)
	}
}

// Whatever a call is given, spare room included, stays; whatever it answers is memory of its own.
func TestMemory(t *testing.T) {
	r, fine := rand.New(rand.NewSource(123)), 0
	for range 500 {
		s := pickSchema(r)
		typ := pickOf(r, names(s)...)
		v := pickNormal(r, s, typ, 5)
		l, _ := Of(s, typ, v)
		m, _ := Of(s, typ, pickNormal(r, s, typ, 4))
		ps := pickPaths(r, l)
		if r.Intn(5) == 0 {
			l = spoil(r, l)
		}
		s, v, l, m, ps = roomy(s), roomy(v), roomy(l), roomy(m), roomy(ps)
		was := whole(s) + whole(v) + whole(l) + whole(m) + whole(ps)
		one, two := ask(s, typ, v, l, m, ps), ask(s, typ, v, l, m, ps)
		if whole(s)+whole(v)+whole(l)+whole(m)+whole(ps) != was {
			t.Fatalf("P12.6: %s: a call changed what it was given: %s, %s", typ, show(v), tell(l))
		}
		checkApart(t, "the answers", slices.Concat(rooms(s), rooms(v), rooms(l), rooms(m), rooms(ps), one.lists(), two.lists()))
		one.scribble()
		if three := ask(s, typ, v, l, m, ps); !three.same(two) {
			t.Fatal("P12.6: what was written into an answer is seen in the next")
		}
		kept := two.again()
		for _, x := range []any{s, v, l, m, ps} {
			scribble(x)
		}
		if !two.same(kept) {
			t.Fatal("P12.6: what was handed in is kept")
		}
		if two.valError == api.OK && len(two.of) > 1 {
			fine++
		}
	}
	if fine < 100 {
		t.Errorf("few have leaves: %d", fine)
	}
}

// The empty lists of an answer have no room of what was handed in.
func TestEmptyRoom(t *testing.T) {
	v := roomy(read(whole1))
	l, _ := Of(example(), "T", v)
	l = roomy(l)
	a := ask(example(), "T", v, l, l, Paths(l[:1]))
	back, _ := Of(example(), "T", a.value)
	for _, some := range [][]api.Leaf{a.of, a.put, a.drop, a.under, back} {
		for _, x := range some {
			for _, e := range x.Path {
				if cap(e.Item.List)+cap(e.Item.Map) > 0 || e.Kind != api.ElemKey && cap(e.Key) > 0 {
					t.Errorf("P12.6: an empty list of %+v has room", e)
				}
			}
			if x.Val.Kind != api.List && cap(x.Val.List)+cap(x.Val.Map) > 0 {
				t.Errorf("P12.6: an empty list of %+v has room", x.Val)
			}
		}
	}
	checkApart(t, "the answers", slices.Concat(rooms(v), rooms(l), a.lists()))
}
