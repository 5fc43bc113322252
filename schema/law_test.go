package schema

import (
	"fmt"
	"math/rand"
	"slices"
	"testing"

	"freehold/api"
	"freehold/json"
)

func checkMeans(t *testing.T, s api.Schema, n string) api.Errno {
	t.Helper()
	got, e := Means(s, n)
	if want, f := wantMeans(s, n); e != f || !same(got, want) {
		t.Errorf("P7.3: Means(%v, %q) = %v, %d, want %v, %d", s, n, got, e, want, f)
	}
	return e
}

// Every way in which four names can lead to each other, to a type, to a word, or nowhere.
func TestEveryWayOfNames(t *testing.T) {
	names := []string{"A", "B", "C", "D"}
	ends := append(slices.Clone(names), "int", "nix", "")
	counts := map[api.Errno]int{}
	for n := range 7 * 7 * 7 * 7 {
		var s api.Schema
		for i, k := 0, n; i < 4; i, k = i+1, k/7 {
			if ends[k%7] == "" {
				s.Types = append(s.Types, api.Type{Name: names[i], Kind: api.TypeMap, Elem: "nix"})
			} else {
				s.Types = append(s.Types, name(names[i], ends[k%7]))
			}
		}
		for _, x := range ends {
			counts[checkMeans(t, s, x)]++
		}
		checkSchema(t, s)
	}
	if counts[0] < 100 || counts[72] < 100 || counts[73] < 100 {
		t.Errorf("few of one sort: %v", counts)
	}
}

// Of types with one name, in whatever order they stand, the first counts; what else is wrong is not asked.
func TestMeansOfWhatMayNotBe(t *testing.T) {
	many := func(n int) []api.Type { return make([]api.Type, n) }
	for _, ahead := range []int{0, 1, 300} {
		for _, l := range [][]api.Type{
			{name("B", "A"), {Name: "A", Kind: api.TypeInt}, {Name: "A", Kind: api.TypeStr}},
			{{Name: "A", Kind: 99, Elem: "A", Rel: -1}, {Name: "B", Kind: -7, Atomic: true}},
			{{Name: "A", Kind: api.TypeStr}, name("A", "B"), name("B", "A")},
			{name("A", "A"), {Name: "A", Kind: api.TypeInt}},
			{name("int", "A"), {Name: "string", Kind: api.TypeMap}, name("A", "string"), name("B", "int")},
			{name("", "B"), name("B", ""), name("A", "\xff"), {Name: "\xff", Kind: api.TypeInt}},
			{name("A", ""), {Name: "B", Kind: api.TypeInt, Enum: []api.Value{bad, null, list(num(1), list(bad)), object(at("b", num(1)), at("a", list(text("\xff")))), {Kind: api.Int, Bool: true, List: []api.Value{num(2)}}}}},
			{name("A", "B"), name("B", "C"), name("C", "D"), name("D", "E"), name("E", "F"), name("F", "G"), name("G", "H"), name("H", "I"), name("I", "J"), name("J", "K"), {Name: "K", Kind: api.TypeBool}, {Name: "K", Kind: api.TypeInt}, name("J", "nix")},
		} {
			s := types(append(many(ahead), l...)...)
			s.Roots = []api.Root{{Kind: "k", Type: "B"}, {Kind: "k", Type: "A"}, {Kind: "", Type: "A"}, {Kind: "nix", Type: "nix"}, {Kind: "/", Type: "int"}}
			for _, n := range []string{"A", "B", "", "int", "string", "bool", "\xff", "nix", "K"} {
				checkMeans(t, s, n)
			}
			for _, k := range []string{"k", "", "nix", "/", "K", "A"} {
				got, e := Root(s, k)
				if want, f := wantRoot(s, k); e != f || !same(got, want) {
					t.Errorf("P7.3: Root(%v, %q) = %v, %d, want %v, %d", l, k, got, e, want, f)
				}
			}
		}
	}
}

// A row of names, one leading to the next, as long as there are types, and longer than any schema that may be.
func TestLongRows(t *testing.T) {
	for _, n := range []int{1, 2, 7, 8, 9, 10, 256, 1 << 17} {
		var s api.Schema
		names := many(n+1, "n")
		for i := range n {
			s.Types = append(s.Types, name(names[i], names[i+1]))
		}
		for _, c := range []struct {
			end  string
			kind int
			e    api.Errno
		}{{"int", api.TypeInt, 0}, {"nix", 0, 72}, {names[0], 0, 73}, {names[n-1], 0, 73}, {names[n/2], 0, 73}} {
			s.Types[n-1].Elem = c.end
			if got, e := Means(s, names[0]); e != c.e || got.Kind != c.kind {
				t.Errorf("P7.3: %d names that lead to %s: %v, %d", n, c.end, got, e)
			}
			if e := Check(s); n <= 256 && e != c.e {
				t.Errorf("P7.1: %d names that lead to %s: %d, want %d", n, c.end, e, c.e)
			}
		}
	}
}

// A path is followed by the first type of each name, however long it is, and whatever stands twice.
func TestAtOfLongPaths(t *testing.T) {
	s := types(
		api.Type{Name: "S", Kind: api.TypeStruct, Fields: fields("a", "M", "a", "nix", "z", "N")},
		api.Type{Name: "S", Kind: api.TypeMap, Elem: "nix"},
		api.Type{Name: "M", Kind: api.TypeMap, Elem: "N"},
		name("N", "S"), name("M", "N"), name("N", "nix"),
	)
	s.Roots = []api.Root{{Kind: "k", Type: "N"}}
	var p api.Path
	for n := range 50 {
		got, e := At(s, "k", p)
		want, f := wantAt(s, "k", p)
		if e != f || !same(got, want) || e != api.OK {
			t.Errorf("P7.5: At of %d elements = %v, %d, want %v, %d", n, got, e, want, f)
		}
		p = append(p, field([]string{"a", "whatever"}[n%2]))
	}
	p = append(p, field("a"), field("b"), field("nix"), field("a"))
	if got, e := At(s, "k", p); e != api.ErrPath || !same(got, api.Type{}) {
		t.Errorf("P7.5: At of a path that leads nowhere = %v, %d", got, e)
	}
}

// Each sort of type and each sort of element, with what a kind does not use, too.
func TestBelowOfEverySort(t *testing.T) {
	s := example()
	s.Types = append(s.Types, name("loop", "loop"), name("Q", "Port"), api.Type{Name: "Flat", Kind: api.TypeStruct, Atomic: true, Fields: fields("port", "int", "port", "string")})
	var all []api.Type
	for _, kind := range []int{-1, 0, 1, 2, 3, 4, 5, 6, 7, 8} {
		for rel := -1; rel <= 3; rel++ {
			for _, elem := range []string{"Port", "Q", "Flat", "int", "Proto", "nix", "loop", "App", "Tags"} {
				for _, keys := range [][]string{nil, {"port"}, {"port", "proto"}, {"note", "note"}, {"proto", "port"}, {"nix"}} {
					all = append(all, api.Type{Kind: kind, Rel: rel, Elem: elem, Keys: keys, Fields: fields("port", elem, "a", "int", "port", "string", "\xff", "int", "", "int")}, api.Type{Kind: kind, Rel: rel, Elem: elem, Keys: keys, Atomic: true})
				}
			}
		}
	}
	elems := []api.Elem{{}, field("port"), field("a"), field(""), field("\xff"), field("nix"), {Kind: 1, Name: "port", Key: []api.Member{}, Item: api.Value{List: []api.Value{}}}, {Kind: 1, Name: "port", Key: []api.Member{{}}}, {Kind: 1, Name: "port", Item: list()}, {Kind: 1, Name: "a", Item: api.Value{Bool: true}}, {Kind: 1, Name: "a", Item: api.Value{Int: 1}}, {Kind: 1, Name: "a", Item: api.Value{Str: "a"}}, {Kind: 1, Name: "a", Item: api.Value{List: make([]api.Value, 1)}}, {Kind: 1, Name: "a", Item: api.Value{Map: make([]api.Member, 1)}},
		item(num(5)), item(text("TCP")), item(text("x")), item(null), item(bad), item(list()), {Kind: 3, Item: num(5), Name: "a"}, {Kind: 3, Item: num(5), Key: []api.Member{{}}},
		key(), key(at("port", num(80))), key(at("port", text("x"))), key(at("port", num(80)), at("proto", text("UDP"))), key(at("proto", text("UDP")), at("port", num(80))), key(at("note", text("a")), at("note", text("b"))), key(at("nix", num(1))), key(at("port", num(80)), at("proto", text("x"))), key(at("port", num(80)), at("proto", text("UDP")), at("z", num(1))), key(at("port", bad)), {Kind: 2, Key: []api.Member{at("port", num(80))}, Name: "a"}, {Kind: 2, Key: []api.Member{at("port", num(80))}, Item: num(0)},
		{Kind: 4, Name: "a"}, {Kind: -1, Name: "a"}, {Kind: 0, Name: "a"}}
	counts := map[api.Errno]int{}
	for _, x := range all {
		for _, e := range elems {
			got, f := Below(s, x, e)
			if want, g := wantBelow(s, x, e); f != g || !same(got, want) {
				t.Fatalf("P7.5: Below(%+v, %+v) = %v, %d, want %v, %d", x, e, got, f, want, g)
			}
			counts[f]++
		}
	}
	if counts[0] < 500 || counts[72] < 20 || counts[73] < 20 || counts[90] < 500 {
		t.Errorf("few of one sort: %v", counts)
	}
}

func TestManyPaths(t *testing.T) {
	r, counts, deep := rand.New(rand.NewSource(73)), map[api.Errno]int{}, 0
	for range 6000 {
		s := pickSchema(r)
		for r.Intn(2) == 0 {
			s = spoil(r, s)
		}
		for range 10 {
			var p api.Path
			kind := pickOf(r, "app", "int", "job")
			if len(s.Roots) > 0 {
				kind = pickOf(r, s.Roots...).Kind
			}
			for range 12 {
				e := pickElem(r)
				if _, f := wantAt(s, kind, append(p, e)); f == api.OK || r.Intn(20) == 0 {
					p = append(p, e)
				}
			}
			got, e := At(s, kind, p)
			if want, f := wantAt(s, kind, p); e != f || !same(got, want) {
				t.Fatalf("P7.5: At(%+v, %s, %v) = %v, %d, want %v, %d", s, kind, p, got, e, want, f)
			}
			counts[e]++
			if e == api.OK && len(p) > 2 {
				deep++
			}
		}
	}
	if counts[0] < 1000 || counts[72] < 20 || counts[73] < 20 || counts[86] < 100 || counts[90] < 1000 || deep < 500 {
		t.Errorf("few of one sort: %v, %d", counts, deep)
	}
}

func TestThereAndBack(t *testing.T) {
	r, n, met := rand.New(rand.NewSource(74)), 0, map[string]api.Schema{}
	for range 12000 {
		s := pickSchema(r)
		if Check(s) != api.OK {
			continue
		}
		n++
		v, e := Print(s)
		if e != api.OK || !same(v, read(wantText(s))) {
			t.Fatalf("P7.2: Print(%v) = %s, %d, want %s", s, show(v), e, wantText(s))
		}
		back, e := Parse(v)
		if e != api.OK || !same(back, s) {
			t.Fatalf("P7.6: Parse(Print(%v)) = %v, %d", s, back, e)
		}
		if again, _ := Print(back); !same(again, v) {
			t.Fatalf("P7.6: Print(Parse(%s)) = %s", show(v), show(again))
		}
		text, _ := json.Print(v, api.DeepRecord)
		if was, ok := met[string(text)]; ok && !same(was, s) {
			t.Fatalf("P7.6: two schemas have one text: %s", text)
		}
		met[string(text)] = s
		for _, x := range s.Types {
			if got, e := Means(s, x.Name); e != api.OK || got.Kind == api.TypeName || got.Kind == 0 {
				t.Fatalf("P7.6: Means(%v, %s) = %v, %d", s, x.Name, got, e)
			}
		}
		for _, k := range s.Roots {
			if got, e := Root(s, k.Kind); e != api.OK || Leaf(got) || got.Kind == api.TypeName {
				t.Fatalf("P7.6: Root(%v, %s) = %v, %d", s, k.Kind, got, e)
			}
		}
	}
	if n < 2000 {
		t.Errorf("few may be: %d", n)
	}
}

// question is one call.
type question struct {
	name string
	does func(g given) answers
}

// given is what the calls are handed.
type given struct {
	S api.Schema
	V api.Value
	X api.Type
	P api.Path
}

// answers is what a call answered.
type answers struct {
	S api.Schema
	T api.Type
	V api.Value
	E api.Errno
}

func questions() []question {
	return []question{
		{"Check", func(g given) answers { return answers{E: Check(g.S)} }},
		{"Parse", func(g given) answers { s, e := Parse(g.V); return answers{S: s, E: e} }},
		{"Print", func(g given) answers { v, e := Print(g.S); return answers{V: v, E: e} }},
		{"Means", func(g given) answers { t, e := Means(g.S, g.X.Name); return answers{T: t, E: e} }},
		{"Root", func(g given) answers { t, e := Root(g.S, "app"); return answers{T: t, E: e} }},
		{"Is", func(g given) answers { return answers{V: truth(Is(g.X, g.V))} }},
		{"Leaf", func(g given) answers { return answers{V: truth(Leaf(g.X))} }},
		{"Below", func(g given) answers { t, e := Below(g.S, g.X, g.P[0]); return answers{T: t, E: e} }},
		{"At", func(g given) answers { t, e := At(g.S, "app", g.P); return answers{T: t, E: e} }},
	}
}

// Whatever a call is given, spare room included, stays; whatever it answers is memory of its own.
func TestMemory(t *testing.T) {
	r := rand.New(rand.NewSource(75))
	for n := range 1000 {
		s := pickSchema(r)
		v := read(wantText(s))
		if n%5 == 0 {
			v = pickOf(r, num(7), text("a"), truth(true))
		}
		if n%3 == 0 {
			s = spoil(r, s)
		}
		p := api.Path{pickElem(r)}
		if x, e := Root(s, "app"); e == api.OK && x.Kind == api.TypeStruct && len(x.Fields) > 0 {
			p = api.Path{field(pickOf(r, x.Fields...).Name)}
		}
		g := roomy(given{s, v, pickOf(r, s.Types...), p})
		was := whole(g)
		for _, c := range questions() {
			one, two := c.does(g), c.does(g)
			if whole(g) != was {
				t.Fatalf("P7.7: %s(%+v) changed what it was given", c.name, g)
			}
			checkApart(t, c.name, slices.Concat(rooms(g), rooms(one), rooms(two)))
			scribble(one)
			if three := c.does(g); !same(two, three) {
				t.Fatalf("P7.7: %s: what was written into an answer is seen in the next", c.name)
			}
		}
		if t.Failed() {
			return
		}
	}
}

// What an enum holds that may not be, or many times over, comes back in memory of its own, too.
func TestMemoryOfEnums(t *testing.T) {
	part := roomy(list(num(1), object(at("a", list(bad)))))
	s := roomy(types(api.Type{Name: "X", Kind: api.TypeInt, Enum: []api.Value{num(1), part, part, list(part, part)}}))
	s.Types[0].Enum[1], s.Types[0].Enum[2] = part, part
	for _, does := range []func() (api.Type, api.Errno){
		func() (api.Type, api.Errno) { return Means(s, "X") },
		func() (api.Type, api.Errno) { return Below(s, api.Type{Kind: api.TypeMap, Elem: "X"}, field("a")) },
	} {
		got, e := does()
		if e != api.OK || !same(got, s.Types[0]) {
			t.Errorf("P7.3: Means of an enum that may not be = %v, %d", got, e)
		}
		checkApart(t, "Means", append(rooms(got), rooms(part)...))
	}
}

// tellers are the calls that answer a type, each asked for the type X of a schema.
func tellers(s api.Schema) map[string]func() (api.Type, api.Errno) {
	box := api.Type{Name: "Box", Kind: api.TypeStruct, Fields: fields("x", "X")}
	s = api.Schema{Types: append([]api.Type{box}, s.Types...), Roots: []api.Root{{Kind: "box", Type: "Box"}, {Kind: "x", Type: "X"}}}
	return map[string]func() (api.Type, api.Errno){
		"Means": func() (api.Type, api.Errno) { return Means(s, "X") },
		"Root":  func() (api.Type, api.Errno) { return Root(s, "x") },
		"Below": func() (api.Type, api.Errno) { return Below(s, box, field("x")) },
		"At":    func() (api.Type, api.Errno) { return At(s, "box", api.Path{field("x")}) },
	}
}

// numbers is a list of so many.
func numbers(n int) api.Value {
	v := list(make([]api.Value, n)...)
	for i := range v.List {
		v.List[i] = num(i)
	}
	return v
}

// Whatever an enum holds is told whole: in one list, in many, in maps, in one that stands there over and over.
func TestEnumsOfVeryManyValues(t *testing.T) {
	many, members, lists := 1<<20+1, object(), list()
	for i := range 1 << 10 {
		lists.List = append(lists.List, numbers(1<<9))
		members.Map = append(members.Map, at(fmt.Sprintf("%04d", i), numbers(1<<9+1)))
	}
	again := list(slices.Repeat([]api.Value{numbers(1 << 7)}, 1<<13)...)
	great := numbers(1 << 18)
	small := slices.Repeat([]api.Value{numbers(3), object(at("a", null), at("b", null))}, 1<<12)
	for what, enum := range map[string][]api.Value{
		"one list":                      {numbers(many)},
		"many values":                   numbers(many).List,
		"many lists, many maps":         {lists, members, num(7)},
		"one list many times":           {again, null, object(at("a", again.List[0]))},
		"few of much, then many of few": append([]api.Value{list(great, great, great), object(at("a", great), at("b", great))}, small...),
	} {
		x := api.Type{Name: "X", Kind: api.TypeStr, Enum: enum}
		for call, does := range tellers(types(x)) {
			if got, e := does(); e != api.OK || !same(got, x) {
				t.Errorf("P7.3, P7.5: %s of a type with %s in its enum: %d, %d values, or not the same", call, what, e, len(got.Enum))
			}
		}
	}
	got, _ := Means(types(api.Type{Name: "X", Kind: api.TypeStr, Enum: []api.Value{again}}), "X")
	checkApart(t, "Means", append(rooms(got), rooms(again.List[0])...))
}

// Values as deep in one another as the page's bound lets them be: 2^16 of them.
func TestEnumsOfDeepValues(t *testing.T) {
	for _, n := range []int{1, 41, 1 << 10, 1<<16 - 1} {
		deep, high := num(7), text("u")
		for range n {
			deep, high = list(deep), object(at("a", high))
		}
		x := api.Type{Name: "X", Kind: api.TypeInt, Enum: []api.Value{deep, high}}
		for call, does := range tellers(types(x)) {
			if got, e := does(); e != api.OK || !same(got, x) {
				t.Errorf("P7.3, P7.5: %s of a type with values %d deep in its enum: %d, or not the same", call, n, e)
			}
		}
	}
}

// A value that lies within itself, or holds itself over and over, is gone through to some end.
func TestEnumsWithoutEnd(t *testing.T) {
	loop := list(num(5), null, null)
	loop.List[1], loop.List[2] = loop, loop
	round := object(at("a", null), at("b", null))
	round.Map[0].Val, round.Map[1].Val = round, round
	twice := list()
	for range 60 {
		twice = list(twice, twice)
	}
	for i, v := range []api.Value{loop, round, twice, object(at("a", loop), at("b", twice))} {
		x := api.Type{Name: "X", Kind: api.TypeInt, Enum: []api.Value{v, num(5)}}
		s := types(x)
		got, e := Means(s, "X")
		if e != api.OK || len(got.Enum) != 2 || !same(got.Enum[1], num(5)) || got.Enum[0].Kind != v.Kind {
			t.Errorf("P7.3: Means of an enum without end (%d): %d, %d values", i, e, len(got.Enum))
		}
		for call, does := range tellers(s) {
			if again, e := does(); e != api.OK || !same(again, got) {
				t.Errorf("P7.3, P7.5: %s of an enum without end (%d): %d, or not what Means answers", call, i, e)
			}
		}
		if e := Check(s); e != api.ErrSchemaEnum {
			t.Errorf("P7.1: Check of an enum without end (%d): %d", i, e)
		}
		if _, e := Print(s); e != api.ErrSchemaEnum {
			t.Errorf("P7.2: Print of an enum without end (%d): %d", i, e)
		}
		if !Is(x, num(5)) || Is(x, num(6)) || Is(x, v) {
			t.Errorf("P7.4: Is of an enum without end (%d)", i)
		}
		if _, e := Below(s, api.Type{Kind: api.TypeList, Rel: api.Set, Elem: "X"}, item(v)); e != api.ErrPath {
			t.Errorf("P7.5: Below of a member without end (%d): %d", i, e)
		}
	}
}
