package update

import (
	"maps"
	"math/rand"
	"slices"
	"testing"

	"freehold/api"
	"freehold/apply"
	"freehold/managers"
	"freehold/record"
	"freehold/schema"
)

// checkLaws holds a write against the page, and what it leaves against P17.4 and P17.6.
func checkLaws(t *testing.T, a write) (api.Object, api.Errno) {
	t.Helper()
	o, e := a.check(t)
	if e != api.OK {
		return o, e
	}
	if e := record.Check(a.s, a.typ, o); e != api.OK {
		t.Fatalf("P17.4: not sound (%d): %s: %s", e, tell(o), a.tell())
	}
	checkClosed(t, a, o)
	for _, manager := range []string{a.manager, "somebody else"} {
		if again, e := (write{a.s, a.typ, o, true, manager, a.v}).check(t); e != api.OK || !same(again, o) {
			t.Fatalf("P17.4: written again by %q: %s, %d: %s", manager, tell(again), e, a.tell())
		}
	}
	if a.there {
		checkOwners(t, a, o)
		return o, e
	}
	if isLeaf(follow(a.s, a.typ)) { // there is no value without leaves
		return o, e
	}
	a.o, a.there = api.Object{Value: emptied(o.Value)}, true
	if x, e := a.check(t); e != api.OK || !same(x, o) {
		t.Fatalf("P17.4: Create is %s, Update of nothing %s, %d: %s", tell(o), tell(x), e, a.tell())
	}
	return o, e
}

// emptied is the value of no leaves.
func emptied(v api.Value) api.Value { return api.Value{Kind: v.Kind} }

// checkClosed holds that who has something below an element by apply has the element.
func checkClosed(t *testing.T, a write, o api.Object) {
	t.Helper()
	for _, x := range o.Entries {
		has := among(x.Fields)
		for _, p := range x.Fields {
			if x.Way == applied && len(lacking(p, has)) > 0 {
				t.Fatalf("P17.6: %q has %s without the element above: %s", x.Manager, tell(p), a.tell())
			}
		}
	}
}

// checkOwners holds of each leaf who has it behind an Update.
func checkOwners(t *testing.T, a write, o api.Object) {
	t.Helper()
	was, is := stateOf(a.s, a.typ, a.o), stateOf(a.s, a.typ, o)
	added, changed, removed, stayed := parts(was.leaves, is.leaves)
	swung, e := checkGains(t, a.s, a.typ, a.o.Value, a.v)
	touched := maps.Clone(added)
	maps.Copy(touched, changed)
	if e != api.OK || !same(swung, swing{paths(touched), paths(removed)}) {
		t.Fatalf("P17.3: %s: %s", tell(swung), a.tell())
	}
	mine := map[string]spot{}
	for k, leaf := range is.leaves {
		_, moved := touched[k]
		if _, had := was.owners[owner{k, a.manager, updated}]; had || moved {
			mine[k] = leaf
		}
		l := record.Owners(o, leaf.path)
		if moved && (len(l) != 1 || l[0].Manager != a.manager || l[0].Way != updated) {
			t.Fatalf("P17.4: %s was added or changed, and has the owners %s: %s", tell(leaf.path), tell(l), a.tell())
		}
	}
	if l := managers.Get(o.Entries, a.manager, updated); !same(l, paths(mine)) {
		t.Fatalf("P17.4: the writer has %s: %s", tell(l), a.tell())
	}
	for _, leaf := range removed {
		if l := record.Owners(o, leaf.path); len(l) > 0 {
			t.Fatalf("P17.4: %s was removed, and has the owners %s: %s", tell(leaf.path), tell(l), a.tell())
		}
	}
	for _, leaf := range stayed {
		if l := record.Owners(o, leaf.path); !same(l, record.Owners(a.o, leaf.path)) {
			t.Fatalf("P17.4: %s is as it was, and has the owners %s: %s", tell(leaf.path), tell(l), a.tell())
		}
	}
}

// checkTwice holds what a write and a second one by the same manager leave.
func checkTwice(t *testing.T, a write, b api.Value) api.Object {
	t.Helper()
	first, e := a.check(t)
	if e != api.OK {
		t.Fatalf("P17.2: %d: %s", e, a.tell())
	}
	second := a
	second.o, second.v = first, b
	o, e := second.check(t)
	if e != api.OK {
		t.Fatalf("P17.2: %d: %s", e, second.tell())
	}
	was, between, is := gathered(a.s, a.typ, a.o.Value), gathered(a.s, a.typ, a.v), gathered(a.s, a.typ, o.Value)
	if !maps.EqualFunc(is, gathered(a.s, a.typ, b), func(x, y spot) bool { return same(x.val, y.val) }) {
		t.Fatalf("P17.5: the value is %s: %s", tell(o.Value), second.tell())
	}
	_, _, gone, alike := parts(was, between)
	back, _, _, still := parts(between, is)
	for k, leaf := range alike {
		if _, both := still[k]; both && !same(record.Owners(o, leaf.path), record.Owners(a.o, leaf.path)) {
			t.Fatalf("P17.5: %s was not touched, and has other owners: %s: %s", tell(leaf.path), tell(o), second.tell())
		}
	}
	for k, leaf := range gone {
		l := record.Owners(o, leaf.path)
		if _, put := back[k]; put && (len(l) != 1 || l[0].Manager != a.manager || l[0].Way != updated) {
			t.Fatalf("P17.5: %s was put back, and has the owners %s: %s", tell(leaf.path), tell(l), second.tell())
		}
	}
	return o
}

// spread is every way in which a manager may have some leaves: none, by apply, by update, each of them.
func spread(manager string, l []api.Path) [][]api.Entry {
	var all [][]api.Entry
	for bits := range pow(3, len(l)) {
		x, y := api.Entry{Manager: manager, Way: applied}, api.Entry{Manager: manager, Way: updated}
		for i, p := range l {
			switch bits / pow(3, i) % 3 {
			case 1:
				x.Fields = append(x.Fields, p)
			case 2:
				y.Fields = append(y.Fields, p)
			}
		}
		all = append(all, slices.DeleteFunc([]api.Entry{x, y}, func(x api.Entry) bool { return len(x.Fields) == 0 }))
	}
	return all
}

func pow(n, k int) int {
	x := 1
	for range k {
		x *= n
	}
	return x
}

// Every choice of owners of some values, and what is near them written.
func TestEveryOwner(t *testing.T) {
	seen, n := map[api.Errno]int{}, 0
	for _, c := range []struct {
		typ, v string
		leaves []string
		writes []string
	}{
		{"T", `{"a":1,"l":[{"id":1,"x":"q"}]}`, []string{".a", ".l[id=1]", ".l[id=1].x"}, []string{`{}`, `{"a":1}`, `{"a":2}`, `{"l":[{"id":1}]}`, `{"l":[{"id":1,"x":"q"}]}`, `{"a":1,"l":[{"id":1,"x":"q"}]}`, `{"a":2,"l":[{"id":1,"x":"r"}]}`, `{"a":1,"l":[{"id":2,"x":"q"}]}`, `{"a":1,"l":[{"id":1,"x":"q"}],"w":[]}`}},
		{"N", `{"n":[{"b":false,"id":1,"n":[{"b":false,"id":2,"s":["p"]}]}]}`, []string{one, two, two + `.s[="p"]`}, []string{`{}`, `{"n":[{"b":false,"id":1}]}`, `{"n":[{"b":false,"id":1,"n":[{"b":false,"id":2}]}]}`, `{"n":[{"b":false,"id":1,"n":[{"b":false,"id":2,"s":["o","p"]}]}]}`, `{"n":[{"b":false,"id":1,"n":[{"b":true,"id":2}]}]}`, `{"n":[{"b":true,"id":1}]}`}},
		{"T", `{"s":["p","q"],"w":[1]}`, []string{`.s[="p"]`, `.s[="q"]`, ".w"}, []string{`{}`, `{"s":["p"]}`, `{"s":["o","q"],"w":[1]}`, `{"s":["p","q"],"w":[]}`}},
		{"W", `[1]`, []string{""}, []string{`[]`, `[1]`, `[1,2]`}},
	} {
		for _, m := range spread("m", set(c.leaves...)) {
			for _, other := range spread("o", set(c.leaves...)) {
				for _, v := range c.writes {
					if n++; n%3 > 0 {
						continue
					}
					_, e := checkLaws(t, to(c.typ, of(c.v, slices.Concat(m, other)...), "m", v))
					seen[e]++
				}
			}
		}
	}
	if seen[api.OK] < 1000 || seen[api.ErrRecord] < 1000 || len(seen) != 2 {
		t.Errorf("few of one sort: %v", seen)
	}
}

// pickManager is one who has something, or nobody.
func pickManager(r *rand.Rand, o api.Object) string {
	if len(o.Entries) > 0 && r.Intn(4) > 0 {
		return pickOf(r, o.Entries...).Manager
	}
	return pickOf(r, "a", "a\x00", "b", "new", "\u00e9")
}

// pickNear is a valid value, most of the times one that has much in common with another one.
func pickNear(r *rand.Rand, s api.Schema, typ string, v api.Value) api.Value {
	return pickOf(r, pickValue(r, s, typ, 4), vary(r, s, typ, v, 4), vary(r, s, typ, v, 4), vary(r, s, typ, v, 4), v)
}

// pickWrite is an Update of a sound object, seldom a Create.
func pickWrite(r *rand.Rand, s api.Schema) write {
	typ, o := pickObject(r, s)
	return write{s, typ, o, r.Intn(8) > 0, pickManager(r, o), pickNear(r, s, typ, o.Value)}
}

// Picked objects of picked types.
func TestManyObjects(t *testing.T) {
	r, seen := rand.New(rand.NewSource(171)), map[string]int{}
	for range 60 {
		s := pickSchema(r)
		if e := schema.Check(s); e != api.OK {
			t.Fatalf("a picked schema: %d", e)
		}
		for range 25 {
			a := pickWrite(r, s)
			o, e := checkLaws(t, a)
			if e != api.OK {
				t.Fatalf("P17.2: %d: %s", e, a.tell())
			}
			added, changed, removed, stayed := parts(gathered(s, a.typ, a.o.Value), gathered(s, a.typ, o.Value))
			seen["added"] += len(added)
			seen["changed"] += len(changed)
			seen["removed"] += len(removed)
			seen["stayed"] += len(stayed)
			seen["entries"] += len(o.Entries)
			if a.there && len(o.Entries) < len(a.o.Entries) {
				seen["fewer"]++
			}
			if a.there && same(o, a.o) {
				seen["same"]++
			}
		}
	}
	for _, what := range []string{"added", "changed", "removed", "stayed", "entries", "fewer", "same"} {
		if seen[what] < 80 {
			t.Errorf("few of one sort: %v", seen)
		}
	}
}

// One manager writes twice, whoever owned what.
func TestManyTwice(t *testing.T) {
	r, back := rand.New(rand.NewSource(172)), 0
	for range 60 {
		s := pickSchema(r)
		for range 15 {
			a := pickWrite(r, s)
			a.there = true
			o := checkTwice(t, a, pickNear(r, s, a.typ, pickOf(r, a.o.Value, a.v)))
			_, _, gone, _ := parts(gathered(s, a.typ, a.o.Value), gathered(s, a.typ, a.v))
			for k := range gathered(s, a.typ, o.Value) {
				if _, put := gone[k]; put {
					back++
				}
			}
		}
	}
	if back < 80 {
		t.Errorf("few were put back: %d", back)
	}
}

// Runs from nothing on: many managers, who create, write and apply.
func TestManyRuns(t *testing.T) {
	r, seen := rand.New(rand.NewSource(173)), map[string]int{}
	for range 50 {
		s := pickSchema(r)
		typ, v := pickNormal(r, s)
		manager := func() string { return pickOf(r, "a", "b", "c") }
		o, e := checkLaws(t, write{s: s, typ: typ, manager: manager(), v: v})
		if e != api.OK {
			t.Fatalf("P17.1: %d: %s", e, tell(v))
		}
		for range 20 {
			a := write{s, typ, o, true, manager(), pickOf(r, vary(r, s, typ, v, 4), vary(r, s, typ, o.Value, 4), v)}
			if r.Intn(3) == 0 {
				next, _, _, e := apply.Apply(s, typ, o, true, a.manager, a.v, true)
				if e != api.OK {
					t.Fatalf("Apply: %d: %s", e, a.tell())
				}
				o = next
				continue
			}
			next, e := checkLaws(t, a)
			if e != api.OK {
				t.Fatalf("P17.2: %d: %s", e, a.tell())
			}
			for _, x := range o.Entries { // what is lost by apply
				has := among(managers.Get(next.Entries, x.Manager, x.Way))
				for _, p := range x.Fields {
					if x.Way == applied && !has(p) {
						seen["lost by apply"]++
					}
				}
			}
			for i := 1; i < len(next.Entries); i++ {
				if next.Entries[i].Manager == next.Entries[i-1].Manager {
					seen["both ways"]++
				}
			}
			o = next
		}
	}
	if seen["lost by apply"] < 100 || seen["both ways"] < 50 {
		t.Errorf("few of one sort: %v", seen)
	}
}

// What is handed in spoilt: the errors and their order.
func TestManyFaults(t *testing.T) {
	r, seen := rand.New(rand.NewSource(174)), map[api.Errno]int{}
	for range 80 {
		s := pickSchema(r)
		for range 20 {
			a := pickWrite(r, s)
			if r.Intn(3) == 0 {
				a.o = spoilObject(r, a.o)
			}
			if r.Intn(3) == 0 {
				a.v = spoil(r, a.v)
			}
			if r.Intn(8) == 0 {
				a.manager = pickOf(r, "", "\xff")
			}
			if r.Intn(30) == 0 {
				a.typ = "no such type"
			}
			_, e := checkLaws(t, a)
			seen[e]++
			checkGains(t, a.s, a.typ, a.o.Value, a.v)
			checkGains(t, a.s, a.typ, a.v, a.o.Value)
		}
	}
	for _, e := range []api.Errno{api.OK, api.ErrSchemaRef, api.ErrName, api.ErrEntries, api.ErrPath, api.ErrValue, api.ErrShape, api.ErrNull, api.ErrLeaf, api.ErrRecord} {
		if seen[e] < 5 {
			t.Errorf("few of one sort: %v", seen)
		}
	}
}

// answers is what all calls answer.
type answers struct {
	Created, Updated api.Object
	Gained, Lost     []api.Path
}

func ask(a write) answers {
	var x answers
	x.Created, _ = Create(a.s, a.typ, a.manager, a.v)
	x.Updated, _ = Update(a.s, a.typ, a.o, a.manager, a.v)
	x.Gained, x.Lost, _ = Gains(a.s, a.typ, a.o.Value, a.v)
	return x
}

// Whatever a call is given, spare room included, stays; whatever it answers is memory of its own.
func TestMemory(t *testing.T) {
	r, fine := rand.New(rand.NewSource(175)), 0
	for range 500 {
		a := pickWrite(r, pickSchema(r))
		if r.Intn(10) == 0 {
			a.o = spoilObject(r, a.o)
		}
		a.s, a.o, a.v = roomy(a.s), roomy(a.o), roomy(a.v)
		given := func() string { return whole(a.s) + whole(a.o) + whole(a.v) }
		was := given()
		one, two := ask(a), ask(a)
		if given() != was {
			t.Fatalf("memory: a call changed what it was given: %s", a.tell())
		}
		checkApart(t, "the answers", slices.Concat(rooms(a.s), rooms(a.o), rooms(a.v), rooms(one), rooms(two)))
		scribble(one)
		if three := ask(a); !same(three, two) {
			t.Fatal("memory: what was written into an answer is seen in the next")
		}
		kept := roomy(two)
		for _, x := range []any{a.s, a.o, a.v} {
			scribble(x)
		}
		if !same(two, kept) {
			t.Fatal("memory: what was handed in is kept")
		}
		if len(two.Gained) > 0 && len(two.Lost) > 0 && len(two.Updated.Entries) > 1 {
			fine++
		}
	}
	if fine < 30 {
		t.Errorf("few have answers that tell something: %d", fine)
	}
}

// An object of many elements, each with something below it, and many who own them.
func TestLarge(t *testing.T) {
	const n = 1500
	element := func(k int, x string) api.Value { return object(at("id", num(k)), at("x", text(x))) }
	var l, now []api.Value
	gained, lost := 0, 0
	for k := range n {
		l = append(l, element(k, "q"))
		switch {
		case k%3 == 0:
			lost += 2
		case k%5 == 0:
			now = append(now, element(k, "r"))
			gained++
		default:
			now = append(now, l[k])
		}
	}
	for k := range n / 2 {
		now = append(now, element(n+k, ""))
		gained += 2
	}
	o, v := api.Object{Value: object(at("l", list(l...)))}, object(at("l", list(now...)))
	all := paths(gathered(example(), "T", o.Value))
	for i := range 30 {
		o.Entries = append(o.Entries, api.Entry{Manager: string(rune('A' + i)), Way: 1 + i%2, Fields: all})
	}
	g, m, e := Gains(example(), "T", o.Value, v)
	if e != api.OK || len(g) != gained || len(m) != lost {
		t.Errorf("P17.3: of a large object %d are gained, %d lost, want %d, %d, %d", len(g), len(m), gained, lost, e)
	}
	behind, e := Update(example(), "T", o, "B", v)
	if e != api.OK || !same(behind.Value, v) || len(behind.Entries) != 30 || record.Check(example(), "T", behind) != api.OK {
		t.Fatalf("P17.2: of a large object: %d entries, %d", len(behind.Entries), e)
	}
	changed := gained - 2*(n/2)
	for _, x := range behind.Entries {
		want := len(all) - lost - changed
		if x.Manager == "B" {
			want = len(all) - lost + 2*(n/2)
		}
		if len(x.Fields) != want {
			t.Errorf("P17.2: of a large object %s has %d, want %d", x.Manager, len(x.Fields), want)
		}
	}
}
