package jsonpatch

import (
	"math/rand"
	"reflect"
	"slices"
	"strings"
	"testing"

	"freehold/api"
)

// leads holds P6.5 for two values of few values and bytes.
func leads(t *testing.T, a, b api.Value) {
	t.Helper()
	l, e := Diff(a, b)
	if e == api.ErrPatchSteps {
		return
	}
	v, at, f := Apply(a, l)
	if e != api.OK || at != -1 || f != api.OK || !same(v, b) {
		t.Errorf("P6.5: from %s to %s by %s: %s, %d, %d", show(a), show(b), tell(l), show(v), at, f)
	}
}

func TestThere(t *testing.T) {
	r := rand.New(rand.NewSource(65))
	for range 8000 {
		a := pick(r, 4)
		leads(t, a, near(r, a, 4))
		leads(t, near(r, a, 4), a)
		leads(t, a, pick(r, 3))
		if l, e := Diff(a, roomy(a)); len(l) != 0 || e != api.OK {
			t.Errorf("P6.5: Diff(%s, itself) = %s, %d", show(a), tell(l), e)
		}
		if t.Failed() {
			return
		}
	}
}

// small is all values of few parts and of that depth at the most.
func small(depth int) []api.Value {
	leaves := []api.Value{null, num(1)}
	if depth == 0 {
		return leaves
	}
	below := append([]api.Value{bad}, small(depth-1)...) // bad stands for nothing
	all := slices.Clone(leaves)
	for _, x := range below {
		for _, y := range below {
			l, m := list(), object()
			for i, z := range []api.Value{x, y} {
				if z.Kind != bad.Kind {
					l.List = append(l.List, z)
					m.Map = append(m.Map, at([]string{"0", "1"}[i], z))
				}
			}
			all = append(all, l, m)
		}
	}
	return all
}

func TestThereBetweenAllSmallValues(t *testing.T) {
	all := small(2)
	r := rand.New(rand.NewSource(66))
	for _, a := range all {
		for _, b := range all {
			if r.Intn(20) > 0 {
				continue
			}
			leads(t, a, b)
			checkDiff(t, a, b)
			if t.Failed() {
				return
			}
		}
	}
}

// All short lists of three elements: what stays at both ends, what lies between.
func TestThereBetweenAllShortLists(t *testing.T) {
	all := []api.Value{list()}
	for i := 0; i < len(all); i++ {
		if len(all[i].List) < 4 {
			for _, x := range []api.Value{num(1), num(2), list(num(1))} {
				all = append(all, list(append(slices.Clone(all[i].List), x)...))
			}
		}
	}
	for _, a := range all {
		for _, b := range all {
			leads(t, a, b)
			checkDiff(t, a, b)
		}
		if t.Failed() {
			return
		}
	}
}

// Two values may each be within the limits while what lies on the way is not.
func TestThereBeyondTheLimits(t *testing.T) {
	half := strings.Repeat("x", 600000)
	for _, c := range []struct {
		a, b  api.Value
		place int
		e     api.Errno
	}{
		{object(at("a", null), at("b", nulls(40000))), object(at("a", nulls(40000)), at("b", null)), 0, api.ErrNodes},
		{object(at("a", null), at("b", text(half))), object(at("a", text(half)), at("b", null)), 0, api.ErrBytes},
		{object(at("a", nulls(40000)), at("b", null)), object(at("a", null), at("b", nulls(40000))), -1, api.OK},
		{object(at("a", nulls(40000)), at("b", null)), object(at("b", nulls(40000))), -1, api.OK}, // what goes goes first
		{list(null, text(half)), list(text(half), null), 0, api.ErrBytes},
		{list(num(1), num(2), nulls(40000)), list(num(2), nulls(40000), num(3)), 1, api.ErrNodes},
	} {
		l, e := Diff(c.a, c.b)
		v, place, f := Apply(c.a, l)
		if e != api.OK || place != c.place || f != c.e || f == api.OK && !same(v, c.b) {
			t.Errorf("P6.5: by %s: %d, %d, want %d, %d", tell(l), place, f, c.place, c.e)
		}
	}
	// Together at the bound: 65536 values, 1048576 bytes.
	leads(t, object(at("a", null), at("b", nulls(32763))), object(at("a", nulls(32763)), at("b", null)))
	leads(t, object(at("a", null), at("b", text(half[:524284]))), object(at("a", text(half[:524284])), at("b", null)))
}

func TestBack(t *testing.T) {
	r, tried := rand.New(rand.NewSource(67)), 0
	for range 5000 {
		v := pick(r, 4)
		l := pickPatch(r, v, r.Intn(8))
		w, _, e := Print(l)
		if e != api.OK {
			continue
		}
		tried++
		back, at, e := Parse(w)
		if at != -1 || e != api.OK || !alike(back, l) {
			t.Fatalf("P6.6: Parse of Print(%s) = %s, %d, %d", tell(l), tell(back), at, e)
		}
		for i := range w.List { // what a step does not use goes; the rest is read as the same
			m := members(w.List[i])
			m["x"] = pick(r, 1)
			w.List[i] = made(m)
		}
		loose, _, e := Parse(w)
		again, _, f := Print(loose)
		third, _, g := Parse(again)
		if e != api.OK || f != api.OK || g != api.OK || !alike(third, loose) || !alike(loose, l) {
			t.Fatalf("P6.6: %s is read as %s, and printed and read as %s", show(w), tell(loose), tell(third))
		}
	}
	if tried < 2000 {
		t.Errorf("only %d patches were tried", tried)
	}
}

// behind is what m does to what l makes, told as if both were one patch.
func behind(v api.Value, l, m []api.Step) (api.Value, int, api.Errno) {
	w, at, e := Apply(v, l)
	if e != api.OK {
		return w, at, e
	}
	w, at, e = Apply(w, m)
	if e != api.OK {
		at += len(l)
	}
	return w, at, e
}

func TestOnePatchBehindAnother(t *testing.T) {
	r, tried := rand.New(rand.NewSource(68)), map[bool]int{}
	for range 5000 {
		v := pick(r, 4)
		l := pickPatch(r, v, r.Intn(10))
		i := r.Intn(len(l) + 1)
		w, at, e := Apply(v, l)
		x, to, f := behind(v, l[:i], l[i:])
		if at != to || e != f || !same(w, x) {
			t.Fatalf("P6.7: %s by %s: %s, %d, %d; parted at %d: %s, %d, %d", show(v), tell(l), show(w), at, e, i, show(x), to, f)
		}
		tried[e == api.OK]++
	}
	if tried[true] < 1000 || tried[false] < 500 {
		t.Errorf("few patches of a sort were tried: %v", tried)
	}
	v := read(doc)
	l := slices.Repeat([]api.Step{adds("/a/-", num(1))}, 256)
	if w, at, e := Apply(v, l); at != -1 || e != api.OK || len(w.Map[0].Val.List) != 258 {
		t.Errorf("P6.7: 256 steps: %d, %d", at, e)
	}
	w, at, e := Apply(v, l)
	x, to, f := behind(v, l[:100], l[100:])
	if at != to || e != f || !same(w, x) {
		t.Errorf("P6.7: 100 and 156 steps: %d, %d", to, f)
	}
}

func TestTestsChangeNothing(t *testing.T) {
	r, tried := rand.New(rand.NewSource(69)), map[bool]int{}
	for range 5000 {
		v := pick(r, 4)
		l := pickPatch(r, v, r.Intn(8))
		w, place, e := Apply(v, l)
		i := r.Intn(len(l) + 1)
		there, _, f := Apply(v, l[:i])
		if f != api.OK {
			continue
		}
		all := places(there)
		p := all[r.Intn(len(all))]
		x, _ := grow(there).down(p)
		if place >= i {
			place++
		}
		more := slices.Insert(slices.Clone(l), i, tests(pointerOf(p...), x.value()))
		got, at, f := Apply(v, more)
		if at != place || f != e || !same(got, w) {
			t.Fatalf("P6.8: %s by %s: %s, %d, %d, want %s, %d, %d", show(v), tell(more), show(got), at, f, show(w), place, e)
		}
		tried[e == api.OK]++
	}
	if tried[true] < 1000 || tried[false] < 200 {
		t.Errorf("few patches of a sort were tried: %v", tried)
	}
}

// roomyPatch is a patch in memory of its own with spare room in all its lists.
func roomyPatch(l []api.Step) []api.Step {
	var m []api.Step
	for _, s := range l {
		s.Value = roomy(s.Value)
		m = append(m, s)
	}
	return append(m, adds("/spare", num(80)), removes("/room"))[:len(m)]
}

// wholePatch is a patch with the spare room of its lists told as if it were part of them.
func wholePatch(l []api.Step) []api.Step {
	var m []api.Step
	for _, s := range l[:cap(l)] {
		s.Value = whole(s.Value)
		m = append(m, s)
	}
	return m
}

func patchRooms(l []api.Step) []room {
	all := roomOf(l)
	for _, s := range l {
		all = append(all, rooms(s.Value)...)
	}
	return all
}

func scribblePatch(l []api.Step) {
	for i, s := range l[:cap(l)] {
		scribble(s.Value)
		l[:cap(l)][i] = api.Step{Op: "scribble"}
	}
}

// outcome is what a call answered.
type outcome struct {
	v  api.Value
	l  []api.Step
	at int
	e  api.Errno
}

func (a outcome) is(b outcome) bool {
	return a.at == b.at && a.e == b.e && same(a.v, b.v) && alike(a.l, b.l)
}

// calls is every call, handed whichever it takes of two values and a patch; a is a value, b the value of a patch or another one.
var calls = []struct {
	name string
	does func(a, b api.Value, l []api.Step) outcome
}{
	{"Parse", func(_, b api.Value, _ []api.Step) (o outcome) { o.l, o.at, o.e = Parse(b); return }},
	{"Print", func(_, _ api.Value, l []api.Step) (o outcome) { o.v, o.at, o.e = Print(l); return }},
	{"Apply", func(a, _ api.Value, l []api.Step) (o outcome) { o.v, o.at, o.e = Apply(a, l); return }},
	{"Diff", func(a, b api.Value, _ []api.Step) (o outcome) { o.l, o.e = Diff(a, b); return }},
}

// Whatever a call is given, spare room included, stays; whatever it answers is memory of its own.
func TestMemory(t *testing.T) {
	r, tried := rand.New(rand.NewSource(70)), map[string]int{}
	for i := range 4000 {
		a := roomy(pick(r, 4))
		l := roomyPatch(pickPatch(r, a, r.Intn(6)))
		b, _, _ := Print(l)
		if i%2 == 0 {
			b = near(r, a, 4)
		}
		b = roomy(b)
		aWas, bWas, lWas := whole(a), whole(b), wholePatch(l)
		for _, c := range calls {
			o := c.does(a, b, l)
			if !same(whole(a), aWas) || !same(whole(b), bWas) || !alike(wholePatch(l), lWas) {
				t.Fatalf("P6.9: %s(%s, %s, %s) changed what it was given", c.name, show(a), show(b), tell(l))
			}
			again := c.does(a, b, l)
			checkApart(t, "P6.9: "+c.name, slices.Concat(rooms(a), rooms(b), patchRooms(l), rooms(o.v), patchRooms(o.l), rooms(again.v), patchRooms(again.l)))
			scribble(o.v)
			scribblePatch(o.l)
			if third := c.does(a, b, l); !third.is(again) {
				t.Fatalf("P6.9: %s(%s, %s, %s): what was written into an answer is seen in the next", c.name, show(a), show(b), tell(l))
			}
			if o.e == api.OK {
				tried[c.name]++
			}
		}
		if t.Failed() {
			return
		}
	}
	for _, c := range calls {
		if tried[c.name] < 800 {
			t.Errorf("%s came to an answer %d times", c.name, tried[c.name])
		}
	}
}

// What holds the same memory twice is answered in memory that is held once.
func TestMemoryThatIsHeldTwice(t *testing.T) {
	part := roomy(read(`[1,{"a":[2]}]`))
	v := roomy(object(at("a", null), at("b", null), at("c", list(null, null))))
	v.Map[0].Val, v.Map[1].Val, v.Map[2].Val.List[1] = part, part, part
	l := []api.Step{adds("/d", part), adds("/e", part), replaces("/a", v), tests("/b", part), copies("/b", "/f"), copies("/b", "/c/-"), moves("/f", "/g")}
	step := object(at("op", text("add")), at("path", text("")), at("value", part))
	b := object(at("a", part), at("x", part), at("y", list(part, part)), at("z", part))
	for _, patch := range [][]api.Step{l, l[:4], l[3:4], nil} {
		for _, c := range calls {
			for _, second := range []api.Value{b, list(step, step, step)} {
				o := c.does(v, second, patch)
				if want := c.does(roomy(v), roomy(second), roomyPatch(patch)); !o.is(want) {
					t.Errorf("P6.9: %s: %s, %s, %d, %d", c.name, show(o.v), tell(o.l), o.at, o.e)
				}
				for _, one := range slices.Concat(rooms(v), rooms(second), patchRooms(patch)) {
					checkApart(t, "P6.9: "+c.name, append(slices.Concat(rooms(o.v), patchRooms(o.l)), one))
				}
			}
		}
	}
}

// With an error every other answer is zero.
func TestNothingBesideAnError(t *testing.T) {
	l, _, e := Parse(read(`[{"op":"remove","path":"/a"},{"op":"remove","path":"a"}]`))
	m, f := Diff(object(), keyed(300, "a", null))
	v, _, g := Print([]api.Step{removes("/a"), {Op: "put"}})
	w, _, h := Apply(read(doc), []api.Step{removes("/a"), removes("/a")})
	if e != api.ErrPointer || f != api.ErrPatchSteps || g != api.ErrPatchShape || h != api.ErrPlace || len(l)+len(m) > 0 || !reflect.DeepEqual(v, null) || !reflect.DeepEqual(w, null) {
		t.Errorf("beside an error: %s, %s, %s, %s (%d, %d, %d, %d)", tell(l), tell(m), show(v), show(w), e, f, g, h)
	}
}
