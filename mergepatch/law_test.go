package mergepatch

import (
	"math/rand"
	"slices"
	"testing"

	"freehold/api"
	"freehold/value"
)

// small is all values of few parts and of that depth at the most.
func small(depth int) []api.Value {
	leaves := []api.Value{null, num(1), list(null)}
	if depth == 0 {
		return leaves
	}
	below := small(depth - 1)
	all := slices.Clone(leaves)
	for i := -1; i < len(below); i++ {
		for k := -1; k < len(below); k++ {
			v := object()
			if i >= 0 {
				v.Map = append(v.Map, at("a", below[i]))
			}
			if k >= 0 {
				v.Map = append(v.Map, at("b", below[k]))
			}
			all = append(all, v)
		}
	}
	return all
}

// Every small value by every small patch: Diff finds a way to what came out, and none with more values; what is told unreachable no patch reaches.
func TestDiffIsTheLeastPatch(t *testing.T) {
	all := small(2)
	for _, a := range all {
		reached := map[string]int{}
		for _, q := range all {
			b, e := Apply(a, q)
			if e != api.OK {
				t.Fatalf("P5.1: %s by %s: %d", show(a), show(q), e)
			}
			n := value.Nodes(q)
			if m, ok := reached[show(b)]; !ok || n < m {
				reached[show(b)] = n
			}
		}
		for _, b := range all {
			n, way := reached[show(b)]
			p, ok, e := Diff(a, b)
			if e != api.OK || ok != way {
				t.Fatalf("P5.4: Diff(%s, %s): %v, %d; some patch leads there: %v", show(a), show(b), ok, e, way)
			}
			if ok && value.Nodes(p) != n {
				t.Fatalf("P5.5: Diff(%s, %s) = %s, which has more values than a patch of %d", show(a), show(b), show(p), n)
			}
			if c, _ := Apply(a, p); ok && !same(c, b) {
				t.Fatalf("P5.3: Diff(%s, %s) = %s leads to %s", show(a), show(b), show(p), show(c))
			}
		}
	}
}

func TestPatchesTwice(t *testing.T) {
	r := rand.New(rand.NewSource(51))
	for range 10000 {
		v, p := pick(r, 4), pick(r, 4)
		once, e := Apply(v, p)
		twice, f := Apply(once, p)
		if e != api.OK || f != api.OK || !same(once, twice) {
			t.Fatalf("P5.5: %s by %s: %s, and again: %s", show(v), show(p), show(once), show(twice))
		}
	}
}

func TestWhatAPatchSaysNothingOf(t *testing.T) {
	r, kept, gone := rand.New(rand.NewSource(52)), 0, 0
	for range 10000 {
		v, p := pick(r, 3), pick(r, 3)
		if v.Kind != api.Map || p.Kind != api.Map {
			continue
		}
		w, _ := Apply(v, p)
		for _, m := range v.Map {
			if _, there := value.Get(p, m.Key); !there {
				kept++
				if x, still := value.Get(w, m.Key); !still || !same(x, m.Val) {
					t.Fatalf("P5.5: %s by %s: %s", show(v), show(p), show(w))
				}
			}
		}
		for _, m := range p.Map {
			if _, there := value.Get(w, m.Key); there == (m.Val.Kind == api.Null) {
				t.Fatalf("P5.5: %s by %s: %s", show(v), show(p), show(w))
			}
			gone++
		}
	}
	if kept < 1000 || gone < 1000 {
		t.Errorf("few members were tried: %d, %d", kept, gone)
	}
}

func TestDiffOfOneMap(t *testing.T) {
	r := rand.New(rand.NewSource(53))
	for range 5000 {
		a := object(at("k", pick(r, 5)))
		if p, ok, e := Diff(a, roomy(a)); !ok || e != api.OK || p.Kind != api.Map || len(p.Map) != 0 {
			t.Fatalf("P5.5: Diff(%s, the same) = %s, %v, %d", show(a), show(p), ok, e)
		}
	}
	big := keyed(65535, "k", null)
	if p, ok, e := Diff(big, big); !ok || e != api.OK || p.Kind != api.Map || len(p.Map) != 0 {
		t.Errorf("P5.5: Diff of a large map and itself: %v, %d", ok, e)
	}
}

// all is every call of two values, by name.
var all = []struct {
	name string
	does func(a, b api.Value) (api.Value, bool, api.Errno)
}{
	{"Apply", func(a, b api.Value) (api.Value, bool, api.Errno) { v, e := Apply(a, b); return v, true, e }},
	{"Clean", func(a, _ api.Value) (api.Value, bool, api.Errno) { v, e := Clean(a); return v, true, e }},
	{"Diff", Diff},
}

// Whatever a call is given, spare room included, stays; whatever it answers is memory of its own.
func TestMemory(t *testing.T) {
	r := rand.New(rand.NewSource(54))
	for range 6000 {
		a := pick(r, 4)
		b := near(r, a, 4)
		a, b = roomy(a), roomy(b)
		aWas, bWas := whole(a), whole(b)
		for _, c := range all {
			v, ok, e := c.does(a, b)
			if !same(whole(a), aWas) || !same(whole(b), bWas) {
				t.Fatalf("memory: %s(%s, %s) changed what it was given", c.name, show(a), show(b))
			}
			again, _, _ := c.does(a, b)
			checkApart(t, c.name, slices.Concat(rooms(a), rooms(b), rooms(v), rooms(again)))
			scribble(v)
			if third, there, f := c.does(a, b); !same(third, again) || there != ok || f != e {
				t.Fatalf("memory: %s(%s, %s): what was written into an answer is seen in the next", c.name, show(a), show(b))
			}
		}
		if t.Failed() {
			return
		}
	}
}

// What holds the same memory twice, or is part of the other argument, is answered in memory that is held once.
func TestMemoryThatIsHeldTwice(t *testing.T) {
	part := roomy(read(`{"x":[1,[2]],"y":{"z":[3]}}`))
	twice := roomy(object(at("a", null), at("b", null), at("c", list(null, null))))
	twice.Map[0].Val, twice.Map[1].Val, twice.Map[2].Val.List[1] = part, part, part
	for _, a := range []api.Value{part, twice, null, list(part, part)} {
		for _, b := range []api.Value{part, twice, object(at("a", part), at("x", part.Map[0].Val)), list(part, part)} {
			for _, c := range all {
				v, _, e := c.does(a, b)
				if e != api.OK {
					t.Errorf("memory: %s(%s, %s): %d", c.name, show(a), show(b), e)
				}
				for _, of := range []api.Value{a, b} {
					for _, one := range rooms(of) {
						checkApart(t, c.name, append(rooms(v), one))
					}
				}
			}
		}
	}
}
