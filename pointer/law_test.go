package pointer

import (
	"fmt"
	"math/rand"
	"slices"
	"testing"

	"freehold/api"
)

// got is what stands at a place that must be there.
func got(t *testing.T, v api.Value, l ...string) api.Value {
	t.Helper()
	x, e := Get(v, pointerOf(l...))
	if e != api.OK {
		t.Fatalf("P4.7: Get(%s, %q): %d", show(v), l, e)
	}
	return x
}

func TestWhatWasSetIsGotAndAllElseStays(t *testing.T) {
	r := rand.New(rand.NewSource(71))
	for range 1500 {
		v, x := pick(r, 4), pick(r, 2)
		all := places(v)
		l := all[r.Intn(len(all))]
		w, e := Set(v, pointerOf(l...), x)
		if e != api.OK || !same(got(t, w, l...), x) {
			t.Fatalf("P4.7: Set(%s, %q, %s) = %s, %d", show(v), l, show(x), show(w), e)
		}
		for _, q := range all {
			if !begins(q, l) && !begins(l, q) && !same(got(t, v, q...), got(t, w, q...)) {
				t.Fatalf("P4.7: Set(%s, %q, %s) changed %q: %s", show(v), l, show(x), q, show(w))
			}
		}
	}
}

func TestSetOfWhatGetAnswers(t *testing.T) {
	r := rand.New(rand.NewSource(72))
	for range 500 {
		v := pick(r, 4)
		for _, l := range places(v) {
			w, e := Set(v, pointerOf(l...), got(t, v, l...))
			if e != api.OK || !same(w, v) {
				t.Fatalf("P4.7: Set(%s, %q, what is there) = %s, %d", show(v), l, show(w), e)
			}
		}
	}
}

func TestTakeBehindAdd(t *testing.T) {
	r, tried := rand.New(rand.NewSource(73)), map[int]int{}
	for range 3000 {
		v, x := pick(r, 4), pick(r, 2)
		all := places(v)
		l := all[r.Intn(len(all))]
		above := got(t, v, l...)
		q := append(slices.Clone(l), pickToken(r))
		if above.Kind == api.List {
			q[len(l)] = fmt.Sprint(len(above.List))
		}
		if _, e := Get(v, pointerOf(q...)); above.Kind < api.List || e == api.OK {
			continue
		}
		tried[above.Kind]++
		w, e := Add(v, pointerOf(q...), x)
		if e != api.OK || !same(got(t, w, q...), x) {
			t.Fatalf("P4.7: Add(%s, %q, %s) = %s, %d", show(v), q, show(x), show(w), e)
		}
		back, was, e := Take(w, pointerOf(q...))
		if e != api.OK || !same(back, v) || !same(was, x) {
			t.Fatalf("P4.7: Take behind Add(%s, %q, %s) = %s, %s, %d", show(v), q, show(x), show(back), show(was), e)
		}
	}
	if tried[api.List] < 100 || tried[api.Map] < 100 {
		t.Errorf("few places were tried: %v", tried)
	}
}

// What stood at the index, or behind it, stands one further; what stood ahead of it stays.
func TestBehindAnAddIntoAList(t *testing.T) {
	r, tried := rand.New(rand.NewSource(74)), 0
	for range 2000 {
		v, x := pick(r, 4), pick(r, 2)
		for _, l := range places(v) {
			above := got(t, v, l...)
			if above.Kind != api.List || r.Intn(4) > 0 {
				continue
			}
			tried++
			i := r.Intn(len(above.List) + 1)
			w, e := Add(v, pointerOf(append(slices.Clone(l), fmt.Sprint(i))...), x)
			if e != api.OK || !same(got(t, w, append(slices.Clone(l), fmt.Sprint(i))...), x) {
				t.Fatalf("P4.7: Add(%s, %q, %d) = %s, %d", show(v), l, i, show(w), e)
			}
			for k, y := range above.List {
				to := k
				if k >= i {
					to++
				}
				if !same(got(t, w, append(slices.Clone(l), fmt.Sprint(to))...), y) {
					t.Fatalf("P4.7: Add(%s, %q, %d) = %s: what stood at %d does not stand at %d", show(v), l, i, show(w), k, to)
				}
			}
		}
	}
	if tried < 500 {
		t.Errorf("only %d lists were tried", tried)
	}
}

// Whatever a call is given, spare room included, stays; whatever it answers is memory of its own.
func TestMemory(t *testing.T) {
	r, tried := rand.New(rand.NewSource(8)), 0
	for range 4000 {
		v, x := roomy(pick(r, 4)), roomy(pick(r, 3))
		p := pickPlace(r, v)
		vWas, xWas := whole(v), whole(x)
		for _, c := range calls {
			o := c.does(v, p, x)
			if !same(whole(v), vWas) || !same(whole(x), xWas) {
				t.Fatalf("P4.8: %s(%s, %q, %s) changed what it was given", c.name, show(v), p, show(x))
			}
			again := c.does(v, p, x)
			l := slices.Concat(rooms(v), rooms(x), rooms(o.v), rooms(o.was), roomOf(o.kids), rooms(again.v), rooms(again.was), roomOf(again.kids))
			checkApart(t, c.name, l)
			scribble(o.v)
			scribble(o.was)
			for i := range o.kids {
				o.kids[i] = "scribble"
			}
			if third := c.does(v, p, x); !third.is(again) {
				t.Fatalf("P4.8: %s(%s, %q, %s): what was written into an answer is seen in the next", c.name, show(v), p, show(x))
			}
			if o.e == api.OK {
				tried++
			}
		}
		if t.Failed() {
			return
		}
	}
	if tried < 5000 {
		t.Errorf("only %d calls came to a place", tried)
	}
}

// scribble writes over all that a value holds, spare room too.
func scribble(v api.Value) {
	l, m := v.List[:cap(v.List)], v.Map[:cap(v.Map)]
	for i := range l {
		scribble(l[i])
		l[i] = text("scribble")
	}
	for i := range m {
		scribble(m[i].Val)
		m[i] = at("scribble", text("scribble"))
	}
}

// A value that holds the same memory twice, or x that is a part of v, is answered in memory that is held once.
func TestMemoryThatIsHeldTwice(t *testing.T) {
	part := roomy(read(`[1,{"a":[2]}]`))
	v := roomy(object(at("a", null), at("b", null), at("c", list(null, null))))
	v.Map[0].Val, v.Map[1].Val, v.Map[2].Val.List[1] = part, part, part
	for _, p := range []string{"", "/a", "/a/1", "/b", "/b/1/a", "/c", "/c/0", "/c/1", "/c/1/1", "/c/-", "/d"} {
		for _, c := range calls {
			for _, x := range []api.Value{part, v, v.Map[2].Val} {
				got, want := c.does(v, p, x), c.wants(v, p, x)
				if !got.is(want) {
					t.Errorf("%s(%s, %q, %s): %s, %d", c.name, show(v), p, show(x), show(got.v), got.e)
				}
				l := slices.Concat(rooms(got.v), rooms(got.was), roomOf(got.kids))
				checkApart(t, c.name+" "+p, append(l, roomOf(v.Map)...))
				checkApart(t, c.name+" "+p, append(l, roomOf(part.List)...))
				checkApart(t, c.name+" "+p, append(l, roomOf(part.List[1].Map)...))
			}
		}
	}
}
