package apply

import (
	"math/rand"
	"slices"
	"testing"

	"freehold/api"
	"freehold/managers"
	"freehold/record"
	"freehold/schema"
)

// checkLaws holds an Apply, with force and without, against the second reading, and what it leaves against P16.4 to P16.6.
func checkLaws(t *testing.T, a asked) (outcome, api.Errno) {
	t.Helper()
	l, e := checkConflicts(t, a)
	p, f := checkGivesUp(t, a)
	if e != f {
		t.Fatalf("P16.1, P16.2: %d, %d: %s", e, f, a.tell())
	}
	plain, e := checkApply(t, a, false)
	forced, f := checkApply(t, a, true)
	if f == api.ErrConflict || e == api.OK && len(plain.conflicts) > 0 || (e == api.ErrConflict) != (len(l) > 0) {
		t.Fatalf("P16.4: %d conflicts, without force %d, with force %d: %s", len(l), e, f, a.tell())
	}
	if e == api.ErrConflict && !same(plain, outcome{conflicts: l}) || e == api.OK && !same(plain, forced) || f == api.OK && !same(forced.conflicts, l) {
		t.Fatalf("P16.3: without force %s, with force %s: %s", tell(plain), tell(forced), a.tell())
	}
	if f == api.OK {
		checkBehind(t, a, forced)
		checkParting(t, a, p, forced.object)
	}
	return forced, f
}

// checkBehind holds what an Apply that was done leaves behind it.
func checkBehind(t *testing.T, a asked, got outcome) {
	t.Helper()
	o := got.object
	if e := record.Check(a.s, a.typ, o); e != api.OK {
		t.Fatalf("P16.4: not sound (%d): %s: %s", e, tell(o), a.tell())
	}
	again := a
	again.o, again.there = o, true
	if x, e := checkApply(t, again, false); e != api.OK || !same(x, outcome{object: o}) {
		t.Fatalf("P16.4: applied again: %s, %d: %s", tell(x), e, a.tell())
	}
	is, says := gathered(a.s, a.typ, o.Value), gathered(a.s, a.typ, a.config)
	for k, leaf := range says {
		if x, there := is[k]; !there || !same(x.val, leaf.val) {
			t.Fatalf("P16.4: at %s there is %s: %s", tell(leaf.path), tell(x), a.tell())
		}
	}
	if l := managers.Get(o.Entries, a.manager, api.ByApply); !same(l, paths(says)) {
		t.Fatalf("P16.4: the manager's entry by apply is %s: %s", tell(l), a.tell())
	}
	for _, x := range o.Entries { // P16.5
		has := among(x.Fields)
		for _, p := range x.Fields {
			if x.Way == api.ByApply && len(lacking(p, has)) > 0 {
				t.Fatalf("P16.5: %q has %s without the element above: %s", x.Manager, tell(p), a.tell())
			}
		}
	}
	if a.there {
		checkOthers(t, a, got)
	}
}

// checkOthers holds that others keep what is no conflict, with its value, and get nothing.
func checkOthers(t *testing.T, a asked, got outcome) {
	t.Helper()
	was, is := gathered(a.s, a.typ, a.o.Value), gathered(a.s, a.typ, got.object.Value)
	others := 0
	for _, x := range a.o.Entries {
		if x.Manager == a.manager {
			continue
		}
		has := among(managers.Get(got.object.Entries, x.Manager, x.Way))
		for _, p := range x.Fields {
			lost := slices.ContainsFunc(got.conflicts, func(c api.Conflict) bool {
				return c.Manager == x.Manager && c.Way == x.Way && same(c.Path, p)
			})
			if has(p) == lost || !lost && !same(was[pathBytes(p)].val, is[pathBytes(p)].val) {
				t.Fatalf("P16.4: %q by %d has %s: %v, %s: %s", x.Manager, x.Way, tell(p), has(p), tell(is[pathBytes(p)]), a.tell())
			}
			if !lost {
				others++
			}
		}
	}
	for _, x := range got.object.Entries {
		if x.Manager != a.manager {
			others -= len(x.Fields)
		}
	}
	if others != 0 {
		t.Fatalf("P16.4: others got something: %s: %s", tell(got.object), a.tell())
	}
}

// checkParting holds what became of what was given up.
func checkParting(t *testing.T, a asked, p parting, o api.Object) {
	t.Helper()
	x := stateOf(a.s, a.typ, o, true)
	was, goes := stateOf(a.s, a.typ, a.o, a.there), among(p.going)
	for _, q := range slices.Concat(p.given, p.going) {
		k := pathBytes(q)
		leaf, there := x.leaves[k]
		switch {
		case goes(q) && (there || len(record.Owners(o, q)) > 0):
			t.Fatalf("P16.6: %s goes, and is there: %s: %s", tell(q), tell(o), a.tell())
		case !goes(q) && (!there || !same(leaf.val, was.leaves[k].val) || !x.held(a.manager, k)):
			t.Fatalf("P16.6: %s stays, and nobody holds it, or it is another one: %s: %s", tell(q), tell(o), a.tell())
		}
	}
}

// spread is every way in which a manager may have some leaves: none, by apply, by update, each of them.
func spread(manager string, l []api.Path) [][]api.Entry {
	all := [][]api.Entry{nil}
	for bits := range pow(3, len(l)) {
		x, y := api.Entry{Manager: manager, Way: applied}, api.Entry{Manager: manager, Way: updated}
		for i, p := range l {
			switch bits / pow(3, i) % 3 {
			case 1:
				x.Fields = append(x.Fields, p)
			case 2:
				y.Fields = append(y.Fields, p)
			}
		}
		if bits > 0 {
			all = append(all, slices.DeleteFunc([]api.Entry{x, y}, func(x api.Entry) bool { return len(x.Fields) == 0 }))
		}
	}
	return all
}

func pow(n, k int) int {
	x := 1
	for range k {
		x *= n
	}
	return x
}

// Every choice of owners of some values, and every config near them.
func TestEveryOwner(t *testing.T) {
	seen, n := map[api.Errno]int{}, 0
	for _, c := range []struct {
		typ, v  string
		leaves  []string
		configs []string
	}{
		{"T", `{"a":1,"l":[{"id":1,"x":"q"}]}`, []string{".a", ".l[id=1]", ".l[id=1].x"}, []string{`{}`, `{"a":1}`, `{"a":2}`, `{"l":[{"id":1}]}`, `{"l":[{"id":1,"x":"q"}]}`, `{"l":[{"id":1,"x":"r"}]}`, `{"a":2,"l":[{"id":1}]}`, `{"a":1,"l":[{"id":1,"x":"r"}]}`, `{"l":[{"id":2,"x":"q"}]}`}},
		{"N", `{"n":[{"b":false,"id":1,"n":[{"b":false,"id":2,"s":["p"]}]}]}`, []string{one, two, two + `.s[="p"]`}, []string{`{}`, `{"n":[{"b":false,"id":1}]}`, `{"n":[{"b":false,"id":1,"n":[{"b":false,"id":2}]}]}`, `{"n":[{"b":false,"id":1,"n":[{"b":false,"id":2,"s":["p"]}]}]}`, `{"n":[{"b":false,"id":1,"n":[{"b":true,"id":2}]}]}`, `{"n":[{"b":true,"id":1}]}`}},
		{"T", `{"s":["p","q"],"w":[1]}`, []string{`.s[="p"]`, `.s[="q"]`, ".w"}, []string{`{}`, `{"s":["p"]}`, `{"s":["o","q"],"w":[1]}`, `{"w":[]}`}},
		{"W", `[1]`, []string{""}, []string{`[]`, `[1]`, `[1,2]`}},
	} {
		for _, m := range spread("m", set(c.leaves...)) {
			for _, other := range spread("o", set(c.leaves...)) {
				for _, config := range c.configs {
					if n++; n%4 > 0 {
						continue
					}
					a := to(c.typ, of(c.v, slices.Concat(m, other)...), "m", config)
					_, e := checkLaws(t, a)
					seen[e]++
					if l, _ := Conflicts(a.s, a.typ, a.o, true, a.manager, a.config); len(l) > 0 {
						seen[api.ErrConflict]++
					}
				}
			}
		}
	}
	if seen[api.OK] < 1000 || seen[api.ErrRecord] < 1000 || seen[api.ErrConflict] < 100 || len(seen) != 3 {
		t.Errorf("few of one sort: %v", seen)
	}
}

// pickManager is one who has something, or nobody.
func pickManager(r *rand.Rand, o api.Object) string {
	if len(o.Entries) > 0 && r.Intn(4) > 0 {
		return pickOf(r, o.Entries...).Manager
	}
	return pickOf(r, "a", "a\x00", "b", "new", "\u00e9")
}

// pickConfig is a valid value, most of the times one that has much in common with the object's.
func pickConfig(r *rand.Rand, s api.Schema, typ string, o api.Object) api.Value {
	return pickOf(r, pickValue(r, s, typ, 4), vary(r, s, typ, o.Value, 4), vary(r, s, typ, o.Value, 4), o.Value)
}

// Picked objects of picked types.
func TestManyObjects(t *testing.T) {
	r, seen := rand.New(rand.NewSource(161)), map[string]int{}
	for range 60 {
		s := pickSchema(r)
		if e := schema.Check(s); e != api.OK {
			t.Fatalf("a picked schema: %d", e)
		}
		for range 20 {
			typ, o := pickObject(r, s)
			a := asked{s, typ, o, r.Intn(10) > 0, pickManager(r, o), pickConfig(r, s, typ, o)}
			got, e := checkLaws(t, a)
			if e != api.OK {
				t.Fatalf("P16.3: %d: %s", e, a.tell())
			}
			given, going, _ := GivesUp(a.s, a.typ, a.o, a.there, a.manager, a.config)
			seen["conflicts"] += len(got.conflicts)
			seen["given"] += len(given)
			seen["going"] += len(going)
			seen["entries"] += len(got.object.Entries)
			if len(given) > 0 && len(going) < len(given) {
				seen["staying"]++
			}
			if !got.changed {
				seen["same"]++
			}
		}
	}
	for _, what := range []string{"conflicts", "given", "going", "entries", "staying", "same"} {
		if seen[what] < 80 {
			t.Errorf("few of one sort: %v", seen)
		}
	}
}

// Runs of Applies from nothing on: many managers, each of whom says now this, now that.
func TestManyRuns(t *testing.T) {
	r, refused, gone := rand.New(rand.NewSource(162)), 0, 0
	for range 60 {
		s := pickSchema(r)
		typ, v := pickNormal(r, s)
		var o api.Object
		there := false
		for range 25 {
			config := pickOf(r, vary(r, s, typ, v, 4), v, pickValue(r, s, typ, 1))
			a := asked{s, typ, o, there, pickOf(r, "a", "b", "c", "d"), config}
			got, e := checkApply(t, a, r.Intn(2) == 0)
			if e == api.ErrConflict {
				refused++
				continue
			}
			if e != api.OK {
				t.Fatalf("P16.3: %d: %s", e, a.tell())
			}
			checkBehind(t, a, got)
			if there && len(gathered(s, typ, got.object.Value)) < len(gathered(s, typ, o.Value)) {
				gone++
			}
			o, there = got.object, true
			if free, e := record.Free(s, typ, o); e != api.OK || len(free) > 0 { // who has something below an element has that, too
				t.Fatalf("P16.5: from nothing on, by apply alone, %s is without an owner, %d: %s", tell(free), e, a.tell())
			}
		}
	}
	if refused < 100 || gone < 100 {
		t.Errorf("few of one sort: %d, %d", refused, gone)
	}
}

// What is handed in spoilt: the errors and their order.
func TestManyFaults(t *testing.T) {
	r, seen := rand.New(rand.NewSource(163)), map[api.Errno]int{}
	for range 80 {
		s := pickSchema(r)
		for range 20 {
			typ, o := pickObject(r, s)
			a := asked{s, typ, o, r.Intn(6) > 0, pickManager(r, o), pickConfig(r, s, typ, o)}
			if r.Intn(3) == 0 {
				a.o = spoilObject(r, o)
			}
			if r.Intn(3) == 0 {
				a.config = spoil(r, a.config)
			}
			if r.Intn(8) == 0 {
				a.manager = pickOf(r, "", "\xff")
			}
			if r.Intn(30) == 0 {
				a.typ = "no such type"
			}
			_, e := checkLaws(t, a)
			seen[e]++
		}
	}
	for _, e := range []api.Errno{api.OK, api.ErrSchemaRef, api.ErrName, api.ErrEntries, api.ErrPath, api.ErrValue, api.ErrShape, api.ErrNull, api.ErrLeaf, api.ErrRecord} {
		if seen[e] < 5 {
			t.Errorf("few of one sort: %v", seen)
		}
	}
}

// answers is what all calls answer.
type answers struct {
	Conflicts    []api.Conflict
	Given, Going []api.Path
	Plain        api.Object
	Refused      []api.Conflict
	Forced       api.Object
	Taken        []api.Conflict
}

func ask(a asked) answers {
	var x answers
	x.Conflicts, _ = Conflicts(a.s, a.typ, a.o, a.there, a.manager, a.config)
	x.Given, x.Going, _ = GivesUp(a.s, a.typ, a.o, a.there, a.manager, a.config)
	x.Plain, _, x.Refused, _ = Apply(a.s, a.typ, a.o, a.there, a.manager, a.config, false)
	x.Forced, _, x.Taken, _ = Apply(a.s, a.typ, a.o, a.there, a.manager, a.config, true)
	return x
}

// Whatever a call is given, spare room included, stays; whatever it answers is memory of its own.
func TestMemory(t *testing.T) {
	r, fine, clashed := rand.New(rand.NewSource(164)), 0, 0
	for range 500 {
		s := pickSchema(r)
		typ, o := pickObject(r, s)
		a := asked{s, typ, o, r.Intn(10) > 0, pickManager(r, o), pickConfig(r, s, typ, o)}
		if r.Intn(10) == 0 {
			a.o = spoilObject(r, o)
		}
		a.s, a.o, a.config = roomy(a.s), roomy(a.o), roomy(a.config)
		given := func() string { return whole(a.s) + whole(a.o) + whole(a.config) }
		was := given()
		one, two := ask(a), ask(a)
		if given() != was {
			t.Fatalf("P16.7: a call changed what it was given: %s", a.tell())
		}
		checkApart(t, "the answers", slices.Concat(rooms(a.s), rooms(a.o), rooms(a.config), rooms(one), rooms(two)))
		scribble(one)
		if three := ask(a); !same(three, two) {
			t.Fatal("P16.7: what was written into an answer is seen in the next")
		}
		kept := roomy(two)
		for _, x := range []any{a.s, a.o, a.config} {
			scribble(x)
		}
		if !same(two, kept) {
			t.Fatal("P16.7: what was handed in is kept")
		}
		if len(two.Given) > 0 && len(two.Going) > 0 && len(two.Forced.Entries) > 1 {
			fine++
		}
		if len(two.Refused) > 1 {
			clashed++
		}
	}
	if fine < 15 || clashed < 15 {
		t.Errorf("few have answers that tell something: %d, %d", fine, clashed)
	}
}

// An object of many elements, each with something below it, and many who own them.
func TestLarge(t *testing.T) {
	const n = 1500
	has := func(i, k int) bool { return i == 0 || k%(i+2) > 0 && k%7 > 0 } // the manager i the element k
	var l, some []api.Value
	clashing, going := 0, 0
	for k := range n {
		l = append(l, object(at("id", num(k)), at("x", text("q"))))
		switch {
		case k%3 > 0 && k%5 > 0:
			some = append(some, l[k])
		case k%3 > 0:
			some = append(some, object(at("id", num(k)), at("x", text("r"))))
			for i := range 29 {
				if has(i+1, k) {
					clashing++
				}
			}
		case k%7 == 0:
			going += 2
		}
	}
	o := api.Object{Value: object(at("l", list(l...)))}
	all := paths(gathered(example(), "T", o.Value))
	for i := range 30 {
		x := api.Entry{Manager: string(rune('A' + i)), Way: 1 + i%2}
		for k := range n {
			if has(i, k) {
				x.Fields = append(x.Fields, all[2*k], all[2*k+1])
			}
		}
		o.Entries = append(o.Entries, x)
	}
	config := object(at("l", list(some...)))
	given, goes, e := GivesUp(example(), "T", o, true, "A", config)
	if e != api.OK || len(given) != 2*n-2*len(some) || len(goes) != going {
		t.Errorf("P16.2: of a large object %d are given up, %d go, want %d, %d, %d", len(given), len(goes), 2*n-2*len(some), going, e)
	}
	behind, changed, conflicts, e := Apply(example(), "T", o, true, "A", config, true)
	if e != api.OK || !changed || len(conflicts) != clashing || len(behind.Entries) != 30 || record.Check(example(), "T", behind) != api.OK {
		t.Errorf("P16.3: of a large object: %d conflicts, want %d, %d entries, %d", len(conflicts), clashing, len(behind.Entries), e)
	}
	if left := gathered(example(), "T", behind.Value); len(left) != 2*n-going {
		t.Errorf("P16.3: of a large object: %d leaves, want %d", len(left), 2*n-going)
	}
	if again, changed, l, e := Apply(example(), "T", behind, true, "A", config, false); e != api.OK || changed || len(l) > 0 || !same(again, behind) {
		t.Errorf("P16.4: a large object, applied again: %d", e)
	}
}
