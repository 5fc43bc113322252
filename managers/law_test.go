package managers

import (
	"math/rand"
	"slices"
	"testing"

	"freehold/api"
	"freehold/json"
	"freehold/path"
	"freehold/pathset"
	"freehold/value"
)

// must is an answer of a call that may not fail.
func must[T any](t *testing.T, what string) func(x T, e api.Errno) T {
	return func(x T, e api.Errno) T {
		t.Helper()
		if e != api.OK {
			t.Fatalf("%s: %d", what, e)
		}
		return x
	}
}

// checkAsk holds what is asked of entries, and that those of a path and all paths say the same.
func checkAsk(t *testing.T, l []api.Entry, more ...api.Path) {
	t.Helper()
	all, _ := checkAll(t, l)
	for _, p := range slices.Concat(all, more) {
		if is := len(checkOwners(t, l, p)) > 0; is != pathset.Has(all, p) {
			t.Fatalf("P14.6: %s has owners in %s: %v", tell(p), tell(l), is)
		}
	}
	for _, x := range l {
		checkGet(t, l, x.Manager, x.Way)
	}
}

// checkCode holds that entries are what they were behind Encode and Decode.
func checkCode(t *testing.T, l []api.Entry) api.Value {
	t.Helper()
	v := must[api.Value](t, "P14.5")(checkEncode(t, l))
	back := must[[]api.Entry](t, "P14.5")(checkDecode(t, v))
	if !same(back, l) || !same(must[api.Value](t, "P14.6")(Encode(back)), v) {
		t.Fatalf("P14.6: %s, there and back: %s", tell(l), tell(back))
	}
	return v
}

// checkSet holds that With sets what it is told to, and nothing else.
func checkSet(t *testing.T, l []api.Entry, x api.Entry) {
	t.Helper()
	m, e := checkWith(t, l, x.Manager, x.Way, x.Fields)
	if e != api.OK {
		return
	}
	if got := Get(m, x.Manager, x.Way); !same(got, x.Fields) {
		t.Fatalf("P14.6: Get behind With(%s): %s", tell(x), tell(got))
	}
	for _, y := range slices.Concat(l, m) {
		if (y.Manager != x.Manager || y.Way != x.Way) && !same(Get(m, y.Manager, y.Way), Get(l, y.Manager, y.Way)) {
			t.Fatalf("P14.6: With(%s) changes what %q has by %d: %s", tell(x), y.Manager, y.Way, tell(m))
		}
	}
	was := Get(l, x.Manager, x.Way)
	if back := must[[]api.Entry](t, "P14.6")(With(m, x.Manager, x.Way, was)); !same(back, l) {
		t.Fatalf("P14.6: With(%s), and back: %s", tell(x), tell(back))
	}
}

// checkLost holds that Lose takes what it is told to, from all but one.
func checkLost(t *testing.T, l []api.Entry, lost []api.Path, but api.Entry) {
	t.Helper()
	left, e := checkLose(t, l, lost, but)
	if e != api.OK {
		return
	}
	if e := Check(left); e != api.OK {
		t.Fatalf("P14.6: entries behind Lose(%s): %d", tell(lost), e)
	}
	for _, p := range slices.Concat(must[[]api.Path](t, "P14.6")(All(l)), lost) {
		was, is := Owners(l, p), Owners(left, p)
		if pathset.Has(lost, p) {
			was = slices.DeleteFunc(was, func(x api.Entry) bool { return x.Manager != but.Manager || x.Way != but.Way })
		}
		if !same(was, is) {
			t.Fatalf("P14.6: the owners of %s behind Lose(%s): %s", tell(p), tell(lost), tell(is))
		}
	}
	if again := must[[]api.Entry](t, "P14.6")(Lose(left, lost, but)); !same(again, left) {
		t.Fatalf("P14.6: Lose(%s) twice: %s", tell(lost), tell(again))
	}
}

// subsets is every set of some paths.
func subsets(l []api.Path) [][]api.Path {
	var sets [][]api.Path
	for bits := range 1 << len(l) {
		var s []api.Path
		for i, p := range l {
			if bits>>i&1 == 1 {
				s = append(s, p)
			}
		}
		sets = append(sets, s)
	}
	return sets
}

// Every short list of entries, wrong ones among them.
func TestEveryList(t *testing.T) {
	var some []api.Entry
	for _, manager := range []string{"", "a", "b"} {
		for way := range 4 {
			for _, f := range [][]api.Path{nil, set(".x"), set(".x", ".y"), set(".y", ".x"), set(".y"), {{{}}}} {
				some = append(some, api.Entry{Manager: manager, Way: way, Fields: f})
			}
		}
	}
	seen := map[api.Errno]int{}
	for _, x := range some {
		for _, y := range some {
			seen[checkCheck(t, []api.Entry{x, y})]++
		}
	}
	some = slices.DeleteFunc(some, func(x api.Entry) bool { return x.Manager == "" || wantName(x.Manager, x.Way) != api.OK })
	for _, x := range some {
		for _, y := range some {
			for _, z := range some {
				seen[checkCheck(t, []api.Entry{x, y, z})]++
			}
		}
	}
	if len(seen) != 5 || seen[api.OK] < 50 {
		t.Errorf("few of one sort: %v", seen)
	}
}

// owned is all entries of two managers that may be, with paths of which one lies below another one; every third of them.
func owned() [][]api.Entry {
	sets := subsets(set(".x", ".x.y", "[=1]"))
	var all [][]api.Entry
	n := 0
	for _, a1 := range sets {
		for _, a2 := range sets {
			for _, b1 := range sets {
				for _, b2 := range sets {
					l := pairsOf([]api.Entry{{Manager: "a", Way: 1, Fields: a1}, {Manager: "a", Way: 2, Fields: a2}, {Manager: "b", Way: 1, Fields: b1}, {Manager: "b", Way: 2, Fields: b2}}).entries()
					if wantCheck(l) != api.OK {
						continue
					}
					if n++; n%3 == 0 {
						all = append(all, l)
					}
				}
			}
		}
	}
	return all
}

// All of a few entries: asked, set, lost, there and back; unlike ones have unlike values.
func TestEveryOwner(t *testing.T) {
	paths := set(".x", ".x.y", "[=1]")
	texts := map[string]bool{}
	names := []api.Entry{{Manager: "a", Way: 1}, {Manager: "a", Way: 2}, {Manager: "b", Way: 2}, {Manager: "b", Way: 0}, {Manager: "c", Way: 1}}
	for i, l := range owned() {
		checkAsk(t, l, append(paths, nil)...)
		b, e := json.Print(checkCode(t, l), api.DeepRecord)
		if e != api.OK || texts[string(b)] {
			t.Fatalf("P14.6: %s has the value of others, or no text: %s, %d", tell(l), b, e)
		}
		texts[string(b)] = true
		for k, f := range subsets(paths) {
			x := names[(i+k)%len(names)]
			checkLost(t, l, f, x)
			x.Fields = f
			checkSet(t, l, x)
		}
	}
	if len(texts) < 200 {
		t.Errorf("few: %d", len(texts))
	}
}

// Picked entries, and picked changes of them.
func TestManyEntries(t *testing.T) {
	r := rand.New(rand.NewSource(141))
	var shared, set, refused, lost int
	for range 250 {
		l := pickEntries(r, 10)
		if e := checkCheck(t, l); e != api.OK {
			t.Fatalf("P14.1: picked entries %s: %d", tell(l), e)
		}
		checkAsk(t, l, pickPath(r), spoil(r, pickPath(r)))
		checkCode(t, l)
		for range 3 {
			x := api.Entry{Manager: pickManager(r), Way: 1 + r.Intn(2), Fields: pickLost(r, l)}
			if len(l) > 0 && r.Intn(2) == 0 {
				x = pickOf(r, l...)
				x.Fields = pickOf(r, nil, pickLost(r, l), pickSet(r, 5))
			}
			checkSet(t, l, x)
			if _, e := With(l, x.Manager, x.Way, x.Fields); e == api.OK {
				set++
			} else {
				refused++
			}
			x.Way = r.Intn(4)
			checkLost(t, l, pickLost(r, l), x)
			if left, _ := Lose(l, pickLost(r, l), x); len(left) > 0 && !same(left, l) {
				lost++
			}
		}
		all, _ := All(l)
		for _, p := range all {
			if len(Owners(l, p)) > 1 {
				shared++
			}
		}
	}
	if shared < 400 || set < 200 || refused < 40 || lost < 200 {
		t.Errorf("few of one sort: %d, %d, %d, %d", shared, set, refused, lost)
	}
}

// Entries that are spoilt, and arguments that are: the errors and their order.
func TestManyFaults(t *testing.T) {
	r, seen := rand.New(rand.NewSource(142)), map[api.Errno]int{}
	for range 900 {
		l := pickEntries(r, 6)
		lost := roomy(pickLost(r, l))
		if len(lost) > 0 && r.Intn(3) == 0 {
			i, k := r.Intn(len(lost)), r.Intn(len(lost))
			lost[i] = pickOf(r, spoil(r, lost[i]), lost[k])
		}
		if r.Intn(2) == 0 {
			l = spoilEntries(r, l)
		}
		x := pickOf(r, api.Entry{Manager: pickManager(r), Way: r.Intn(4)}, api.Entry{Manager: pickOf(r, "", "\xff"), Way: r.Intn(4)})
		seen[checkCheck(t, l)]++
		checkAsk(t, l, lost...)
		_, e := checkWith(t, l, x.Manager, x.Way, lost)
		seen[e]++
		checkLose(t, l, lost, x)
		checkEncode(t, l)
	}
	for _, e := range []api.Errno{api.OK, api.ErrName, api.ErrEntries, api.ErrPath, api.ErrSet} {
		if seen[e] < 20 {
			t.Errorf("few of one sort: %v", seen)
		}
	}
}

// spoilValue changes a little somewhere in a value.
func spoilValue(r *rand.Rand, v *api.Value) {
	n := len(v.List) + len(v.Map)
	if i := r.Intn(n + 1); i < len(v.List) {
		spoilValue(r, &v.List[i])
		return
	} else if i < n && r.Intn(4) > 0 {
		spoilValue(r, &v.Map[i].Val)
		return
	}
	if n > 0 && r.Intn(2) == 0 {
		spoilHeld(r, v)
		return
	}
	*v = pickOf(r, api.Value{}, num(1), str(""), str("a"), str("apply"), str("update"), str("x"), list(), object(), list(*v), object(at("fields", *v)), object(at(".x", object())), api.Value{Kind: 9})
}

// spoilHeld changes what a list or a map holds.
func spoilHeld(r *rand.Rand, v *api.Value) {
	if v.Kind == api.List {
		i, k := r.Intn(len(v.List)), r.Intn(len(v.List))
		switch r.Intn(3) {
		case 0:
			v.List[i], v.List[k] = v.List[k], v.List[i]
		case 1:
			v.List = append(v.List, v.List[k])
		case 2:
			v.List = slices.Delete(v.List, i, i+1)
		}
		return
	}
	i := r.Intn(len(v.Map))
	switch r.Intn(3) {
	case 0:
		v.Map[i].Key = pickOf(r, "fields", "manager", "way", "", ".", ".x", "[=1]", v.Map[i].Key+"x")
	case 1:
		v.Map = slices.Delete(v.Map, i, i+1)
	case 2:
		*v, _ = value.With(*v, pickOf(r, "a", "z", ".", ".x", "manager"), pickOf(r, object(), str("b")))
	}
}

// Values of entries, changed here and there.
func TestSpoiltValues(t *testing.T) {
	r, seen := rand.New(rand.NewSource(143)), map[api.Errno]int{}
	for range 2500 {
		v := must[api.Value](t, "P14.5")(Encode(pickEntries(r, 4)))
		spoilValue(r, &v)
		l, e := checkDecode(t, v)
		seen[e]++
		if e == api.OK && !same(checkCode(t, l), v) {
			t.Fatalf("P14.6: Encode of what Decode(%s) answers", tell(v))
		}
	}
	if seen[api.OK] < 300 || seen[api.ErrEntries] < 1000 || seen[api.ErrValue] < 50 {
		t.Errorf("few of one sort: %v", seen)
	}
}

// answers is what all calls answer to some arguments.
type answers struct {
	Get, All           []api.Path
	With, Lose, Owners []api.Entry
	Encode             api.Value
	Decode             []api.Entry
}

func ask(l []api.Entry, x api.Entry, lost []api.Path, p api.Path, v api.Value) answers {
	var a answers
	Check(l)
	a.Get = Get(l, x.Manager, x.Way)
	a.With, _ = With(l, x.Manager, x.Way, x.Fields)
	a.Lose, _ = Lose(l, lost, x)
	a.Owners = Owners(l, p)
	a.All, _ = All(l)
	a.Encode, _ = Encode(l)
	a.Decode, _ = Decode(v)
	return a
}

// Whatever a call is given, spare room included, stays; whatever it answers is memory of its own.
func TestMemory(t *testing.T) {
	r, fine := rand.New(rand.NewSource(144)), 0
	for range 250 {
		l := pickEntries(r, 6)
		v := must[api.Value](t, "P14.5")(Encode(l))
		x, lost, p := api.Entry{Manager: pickManager(r), Way: 1 + r.Intn(2)}, pickLost(r, l), pickPath(r)
		if len(l) > 0 {
			x = pickOf(r, pickOf(r, l...), x)
			p = pickOf(r, pickOf(r, l...).Fields...)
		}
		x.Fields = pickOf(r, x.Fields, pickSet(r, 6))
		if r.Intn(8) == 0 {
			l = spoilEntries(r, l)
		}
		l, v, x, lost, p = roomy(l), roomy(v), roomy(x), roomy(lost), roomy(p)
		given := func() string { return whole(l) + whole(v) + whole(x) + whole(lost) + whole(p) }
		was := given()
		one, two := ask(l, x, lost, p, v), ask(l, x, lost, p, v)
		if given() != was {
			t.Fatalf("memory: a call changed what it was given: %s", tell(l))
		}
		checkApart(t, "the answers", slices.Concat(rooms(l), rooms(v), rooms(x), rooms(lost), rooms(p), rooms(one), rooms(two)))
		scribble(one)
		if three := ask(l, x, lost, p, v); !same(three, two) {
			t.Fatal("memory: what was written into an answer is seen in the next")
		}
		kept := roomy(two)
		for _, x := range []any{l, v, x, lost, p} {
			scribble(x)
		}
		if !same(two, kept) {
			t.Fatal("memory: what was handed in is kept")
		}
		if len(two.Get) > 0 && len(two.With) > 1 && len(two.Lose) > 0 && len(two.Owners) > 0 {
			fine++
		}
	}
	if fine < 50 {
		t.Errorf("few have answers that tell something: %d", fine)
	}
}

// Some managers with large sets that have much in common.
func TestLarge(t *testing.T) {
	var l []api.Entry
	for i := range 64 {
		x := api.Entry{Manager: string(rune('A' + i)), Way: 1 + i%2}
		for k := range 900 {
			if k%(i+2) > 0 {
				x.Fields = append(x.Fields, api.Path{field("spec"), field("list"), key(at("id", num(k)))})
			}
		}
		l = append(l, x)
	}
	all := must[[]api.Path](t, "P14.2")(checkAll(t, l))
	if len(all) != 899 {
		t.Errorf("P14.2: %d paths", len(all))
	}
	checkCode(t, l)
	checkLose(t, l, all[100:700], l[17])
	checkWith(t, l, l[3].Manager, l[3].Way, all)
	checkOwners(t, l, all[800])
	if text, e := path.Text(all[0]); text != ".spec.list[id=1]" || e != api.OK {
		t.Errorf("P14.2: the first path: %s", text)
	}
}
