package compare

import (
	"slices"
	"strconv"
	"strings"
	"testing"

	"freehold/api"
	"freehold/validate"
)

// example is the chapter's types, by hand, and some more: other names, enums, atomic ones, lists in lists, types that hold themselves.
func example() api.Schema {
	return api.Schema{
		Types: []api.Type{
			{Name: "At", Kind: api.TypeStruct, Atomic: true, Fields: fields("e", "E", "s", "Strs", "w", "W")},
			{Name: "C", Kind: api.TypeInt, Enum: []api.Value{num(-1), num(1), num(2)}},
			{Name: "Cs", Kind: api.TypeList, Rel: api.Set, Elem: "C"},
			{Name: "E", Kind: api.TypeStruct, Fields: fields("id", "int", "x", "string")},
			{Name: "Es", Kind: api.TypeList, Rel: api.Keyed, Keys: []string{"id"}, Elem: "E"},
			{Name: "M", Kind: api.TypeMap, Elem: "string"},
			{Name: "N", Kind: api.TypeStruct, Fields: fields("a", "int", "es", "Es", "n", "N", "s", "Strs", "w", "Tree")},
			{Name: "Other", Kind: api.TypeName, Elem: "T"},
			{Name: "P", Kind: api.TypeStruct, Fields: fields("a", "string", "b", "C", "m", "M", "p", "bool", "ps", "Ps", "q", "string")},
			{Name: "Ps", Kind: api.TypeList, Rel: api.Keyed, Keys: []string{"b", "p"}, Elem: "P"},
			{Name: "Strs", Kind: api.TypeList, Rel: api.Set, Elem: "string"},
			{Name: "T", Kind: api.TypeStruct, Fields: fields("a", "int", "l", "Es", "m", "M", "s", "Strs", "w", "W")},
			{Name: "Tree", Kind: api.TypeList, Elem: "Tree"},
			{Name: "U", Kind: api.TypeStruct, Fields: fields("at", "At", "c", "C", "e", "E", "n", "N", "o", "Other", "ps", "Ps", "t", "T")},
			{Name: "W", Kind: api.TypeList, Elem: "int"},
			{Name: "Ws", Kind: api.TypeName, Elem: "W"},
		},
		Roots: []api.Root{{Kind: "t", Type: "T"}},
	}
}

// broken is the example with a kind of a type that is not there.
func broken() api.Schema {
	s := example()
	s.Roots = append(s.Roots, api.Root{Kind: "u", Type: "no such type"})
	return s
}

func TestDiff(t *testing.T) {
	for _, c := range []struct{ typ, a, b, added, changed, removed string }{
		{"T", `{"a":1,"s":["p","q"],"w":[1]}`, `{"a":2,"m":{"k":"v"},"s":["q"],"w":[1]}`, ".m.k", ".a", `.s[="p"]`},
		{"T", `{"s":["p","q"]}`, `{"m":{},"s":["q","p"]}`, "", "", ""},
		{"T", `{"w":[1,2]}`, `{"w":[2,1]}`, "", ".w", ""},
		{"T", `{"l":[{"id":1,"x":"q"}]}`, `{}`, "", "", ".l[id=1] .l[id=1].x"},
		{"T", `{}`, `{}`, "", "", ""}, {"T", `{"a":null,"l":[],"m":{"k":null}}`, `{"s":[]}`, "", "", ""}, {"T", `{"a":0}`, `{"a":null}`, "", "", ".a"}, {"T", `{"w":[]}`, `{}`, "", "", ".w"},
		{"Other", `{"a":0}`, `{"a":1,"w":[]}`, ".w", ".a", ""},
		// an element stays while one of its fields goes, comes or changes; another key is another element
		{"T", `{"l":[{"id":1,"x":"q"}]}`, `{"l":[{"id":1}]}`, "", "", ".l[id=1].x"}, {"T", `{"l":[{"id":1,"x":""}]}`, `{"l":[{"id":1,"x":"q"}]}`, "", ".l[id=1].x", ""}, {"T", `{"l":[{"id":1}]}`, `{"l":[{"id":2},{"id":1,"x":"q"}]}`, ".l[id=1].x .l[id=2]", "", ""}, {"T", `{"l":[{"id":10,"x":"q"}]}`, `{"l":[{"id":9,"x":"q"}]}`, ".l[id=9] .l[id=9].x", "", ".l[id=10] .l[id=10].x"},
		{"Ps", `[{"b":1,"p":true,"ps":[{"b":1,"p":true,"q":"r"}]}]`, `[{"b":1,"p":false},{"b":1,"p":true,"ps":[{"b":1,"p":true,"q":"s"},{"b":2,"p":true}]}]`, "[b=1,p=false] [b=1,p=true].ps[b=2,p=true]", "[b=1,p=true].ps[b=1,p=true].q", ""},
		// what is atomic changes as a whole; its empty lists and their order are part of it, its nulls are not
		{"U", `{"at":{}}`, `{"at":{"s":[]}}`, "", ".at", ""}, {"U", `{"at":{"s":["a","b"]}}`, `{"at":{"s":["b","a"]}}`, "", ".at", ""}, {"U", `{"at":{"e":null}}`, `{"at":{}}`, "", "", ""}, {"U", `{"at":{"e":{"x":null}}}`, `{"at":{"e":{}}}`, "", "", ""}, {"U", `{}`, `{"at":{}}`, ".at", "", ""},
		// the key field of a struct that is no element is a leaf
		{"U", `{"e":{"id":1,"x":"y"}}`, `{"e":{"id":2}}`, "", ".e.id", ".e.x"},
		// of a type that is a leaf
		{"int", `1`, `2`, "", "(root)", ""}, {"int", `1`, `1`, "", "", ""}, {"W", `[]`, `[0]`, "", "(root)", ""}, {"At", `{}`, `{"w":null}`, "", "", ""}, {"bool", `false`, `true`, "", "(root)", ""},
		{"Strs", `["b","a"]`, `["c","b"]`, `[="c"]`, "", `[="a"]`}, {"M", `{"a":"","b":""}`, `{"b":"1","c":""}`, ".c", ".b", ".a"},
	} {
		d := checkDiff(t, example(), c.typ, read(c.a), read(c.b))
		for _, x := range []struct {
			l    []api.Path
			want string
		}{{d.Added, c.added}, {d.Changed, c.changed}, {d.Removed, c.removed}} {
			if got := tell(x.l); got != strings.ReplaceAll(x.want, "(root)", "") || (len(x.l) == 0) != (x.want == "") {
				t.Errorf("P13.1: Diff(%s, %s, %s): %s, want %s", c.typ, c.a, c.b, got, x.want)
			}
		}
		checkLaws(t, example(), c.typ, read(c.a), read(c.b), nil)
	}
}

func TestMerge(t *testing.T) {
	for _, c := range []struct{ typ, live, config, want string }{
		{"T", `{"a":1,"l":[{"id":2,"x":"q"}]}`, `{"a":5,"l":[{"id":1},{"id":2,"x":"r"}]}`, `{"a":5,"l":[{"id":1},{"id":2,"x":"r"}]}`},
		{"T", `{"w":[1,2]}`, `{"w":[3]}`, `{"w":[3]}`}, {"T", `{"w":[1,2]}`, `{"w":[]}`, `{"w":[]}`},
		{"T", `{"a":1,"l":[],"s":["q","p"]}`, `{"a":null,"m":{},"s":[]}`, `{"a":1,"s":["p","q"]}`}, {"T", `{}`, `{}`, `{}`}, {"T", `{"m":{}}`, `{"l":[]}`, `{}`},
		{"T", `{"l":[{"id":1,"x":"q"}]}`, `{"l":[{"id":1}]}`, `{"l":[{"id":1,"x":"q"}]}`}, {"T", `{"m":{"a":"1","b":"2"}}`, `{"m":{"b":"3","c":"4"}}`, `{"m":{"a":"1","b":"3","c":"4"}}`}, {"T", `{"s":["c","a"]}`, `{"s":["b","a"]}`, `{"s":["a","b","c"]}`},
		{"Es", `[{"id":10}]`, `[{"id":9},{"id":-1}]`, `[{"id":-1},{"id":9},{"id":10}]`}, {"Other", `{"a":1}`, `{"w":[2]}`, `{"a":1,"w":[2]}`},
		{"U", `{"at":{"w":[1]},"c":1}`, `{"at":{"s":[],"w":null}}`, `{"at":{"s":[]},"c":1}`},
		{"Ps", `[{"b":1,"m":{"k":"v"},"p":true,"ps":[{"b":2,"p":true,"q":"r"}]}]`, `[{"b":1,"p":true,"ps":[{"a":"x","b":2,"p":true},{"b":1,"p":false}]}]`, `[{"b":1,"m":{"k":"v"},"p":true,"ps":[{"b":1,"p":false},{"a":"x","b":2,"p":true,"q":"r"}]}]`},
		{"int", `1`, `2`, `2`}, {"Ws", `[1,2]`, `[]`, `[]`}, {"At", `{"w":[1]}`, `{"e":null}`, `{}`}, {"Strs", `[]`, `[]`, `[]`}, {"M", `{"a":null}`, `{}`, `{}`},
	} {
		v, e := checkMerge(t, example(), c.typ, read(c.live), read(c.config))
		if e != api.OK || show(v) != c.want {
			t.Errorf("P13.2: Merge(%s, %s, %s) = %s, %d, want %s", c.typ, c.live, c.config, show(v), e, c.want)
		}
		checkLaws(t, example(), c.typ, read(c.live), read(c.config), nil)
	}
}

func TestParts(t *testing.T) {
	const some = `{"a":1,"l":[{"id":1,"x":"q"},{"id":2}]}`
	const nest = `[{"b":1,"p":true,"ps":[{"b":1,"p":true,"ps":[{"b":2,"p":false,"q":"z"}]},{"b":2,"p":true}]},{"a":"y","b":2,"p":true}]`
	for _, c := range []struct {
		typ, v    string
		set       []string
		drop, ext string
	}{
		{"T", some, []string{".l[id=1]"}, `{"a":1,"l":[{"id":2}]}`, `{"l":[{"id":1}]}`}, {"T", some, []string{".l[id=1].x"}, `{"a":1,"l":[{"id":1},{"id":2}]}`, `{"l":[{"id":1,"x":"q"}]}`}, {"T", some, []string{".l"}, `{"a":1}`, `{}`}, {"T", some, []string{""}, `{}`, `{}`}, {"T", some, nil, some, `{}`},
		{"T", some, []string{"", ".a", ".l[id=1]", ".l[id=1].x", ".l[id=2]"}, `{}`, some}, {"T", some, []string{".l[id=1].x", ".l[id=2]"}, `{"a":1,"l":[{"id":1}]}`, `{"l":[{"id":1,"x":"q"},{"id":2}]}`},
		{"T", some, []string{".l[id=1].id", ".l[id=2].id"}, some, `{}`},                                                                                                                                    // key fields have no leaves
		{"T", some, []string{".A", ".a.b", ".b", ".l[id=1].x.y", ".l[id=2].x", ".l[id=3]", `.l[id="1"]`, ".l[=1]", ".m", ".z", "[=1]"}, some, `{}`},                                                        // nothing stands there
		{"T", `{"a":null,"l":[{"id":2},{"id":1,"x":null}],"m":{},"s":["b","a"],"w":[2,1]}`, []string{`.s[="b"]`}, `{"l":[{"id":1},{"id":2}],"s":["a"],"w":[2,1]}`, `{"s":["b"]}`},                          // of the normal form
		{"T", `{"m":{"a":"","b":"x"},"s":["a","b"],"w":[]}`, []string{".m.a", `.s[="a"]`, ".w"}, `{"m":{"b":"x"},"s":["b"]}`, `{"m":{"a":""},"s":["a"],"w":[]}`}, {"T", `{"w":[]}`, nil, `{"w":[]}`, `{}`}, // an empty list that is atomic is a leaf
		{"U", `{"at":{"w":[1]},"t":{"m":{"k":"v"}}}`, []string{".at.w", ".t.m.k"}, `{"at":{"w":[1]}}`, `{"t":{"m":{"k":"v"}}}`}, {"U", `{"e":{"id":1,"x":"y"}}`, []string{".e.id"}, `{"e":{"x":"y"}}`, `{"e":{"id":1}}`},
		{"Ps", nest, []string{"[b=1,p=true].ps[b=1,p=true].ps[b=2,p=false].q"}, `[{"b":1,"p":true,"ps":[{"b":1,"p":true,"ps":[{"b":2,"p":false}]},{"b":2,"p":true}]},{"a":"y","b":2,"p":true}]`, `[{"b":1,"p":true,"ps":[{"b":1,"p":true,"ps":[{"b":2,"p":false,"q":"z"}]}]}]`},
		{"Ps", nest, []string{"[b=1,p=true].ps[b=1,p=true]", "[b=2,p=true].a"}, `[{"b":1,"p":true,"ps":[{"b":2,"p":true}]},{"b":2,"p":true}]`, `[{"b":1,"p":true,"ps":[{"b":1,"p":true}]},{"a":"y","b":2,"p":true}]`},
		{"Ps", nest, []string{"[b=1,p=true].ps", "[b=1,p=true].ps[b=2,p=true]"}, `[{"b":1,"p":true},{"a":"y","b":2,"p":true}]`, `[{"b":1,"p":true,"ps":[{"b":2,"p":true}]}]`},
		{"Strs", `["b","a"]`, []string{`[="a"]`}, `["b"]`, `["a"]`}, {"Strs", `["a"]`, []string{""}, `[]`, `[]`}, {"Es", `[{"id":1}]`, []string{"[id=1]"}, `[]`, `[{"id":1}]`},
	} {
		left, of, e := checkParts(t, example(), c.typ, read(c.v), set(c.set...))
		if e != api.OK || show(left) != c.drop || show(of) != c.ext {
			t.Errorf("P13.3: %s, %s, %q: Drop = %s, Extract = %s, %d", c.typ, c.v, c.set, show(left), show(of), e)
		}
		checkLaws(t, example(), c.typ, read(c.v), read(c.v), set(c.set...))
	}
}

// Of a type that is a leaf a value can't be left without it.
func TestOneLeaf(t *testing.T) {
	for _, c := range []struct{ typ, v, want string }{{"int", `0`, `0`}, {"C", `2`, `2`}, {"string", `""`, `""`}, {"bool", `false`, `false`}, {"W", `[]`, `[]`}, {"Ws", `[2,1]`, `[2,1]`}, {"At", `{"w":null}`, `{}`}, {"Tree", `[[],[[]]]`, `[[],[[]]]`}} {
		for _, x := range []struct {
			l    []string
			root bool
		}{{nil, false}, {[]string{""}, true}, {[]string{"", ".a"}, true}, {[]string{".a", "[=1]"}, false}} {
			left, e := Drop(example(), c.typ, read(c.v), set(x.l...))
			of, f := Extract(example(), c.typ, read(c.v), set(x.l...))
			if x.root {
				left, e, of, f = of, f, left, e
			}
			if e != api.OK || show(left) != c.want || f != api.ErrLeaf || !same(of, null) {
				t.Errorf("P13.3: %s, %s, %q: %s, %d, %s, %d", c.typ, c.v, x.l, show(left), e, show(of), f)
			}
			checkParts(t, example(), c.typ, read(c.v), set(x.l...))
		}
	}
}

// refuse holds the errors of all five calls against the one that is wanted, and their other answers against nothing.
func refuse(t *testing.T, s api.Schema, typ string, a, b api.Value, l []api.Path, two, one api.Errno) {
	t.Helper()
	d, e := Diff(s, typ, a, b)
	is, f := Same(s, typ, a, b)
	m, g := Merge(s, typ, a, b)
	if e != two || f != two || g != two || is || !same(d, api.Change{}) || !same(m, null) {
		t.Errorf("P13.1, P13.2: %s, %s, %s: %d, %d, %d, want %d", typ, show(a), show(b), e, f, g, two)
	}
	x, h := Drop(s, typ, a, l)
	y, i := Extract(s, typ, a, l)
	if one != api.OK && (h != one || i != one || !same(x, null) || !same(y, null)) {
		t.Errorf("P13.3: %s, %s, %s: %d, %d, want %d", typ, show(a), tell(l), h, i, one)
	}
}

// The first value is asked ahead of the second one, that or a set behind it.
func TestRefused(t *testing.T) {
	round := []api.Value{null}
	round[0] = list(round...)
	deep := null
	for range 33 {
		deep = list(deep)
	}
	fine, swapped, none := object(), set(".b", ".a"), []api.Path{{{}}}
	for _, c := range []struct {
		v api.Value
		e api.Errno
	}{
		{null, api.ErrNull}, {num(5), api.ErrShape}, {list(), api.ErrShape}, {read(`{"b":1}`), api.ErrField}, {read(`{"b":null}`), api.ErrField}, {read(`{"a":"x"}`), api.ErrShape}, {read(`{"s":["a","a"]}`), api.ErrTwice}, {read(`{"s":[null]}`), api.ErrNull}, {read(`{"w":[null]}`), api.ErrNull}, {read(`{"l":[{"x":"q"}]}`), api.ErrKey}, {read(`{"l":[{"id":1},{"id":1}]}`), api.ErrTwice},
		{api.Value{Kind: 9}, api.ErrValue}, {object(at("b", null), at("a", null)), api.ErrValue}, {deep, api.ErrDeep}, {list(round...), api.ErrDeep}, {list(make([]api.Value, 65536)...), api.ErrNodes}, {text(strings.Repeat("x", 1048577)), api.ErrBytes},
	} {
		for _, l := range [][]api.Path{nil, swapped, none} {
			refuse(t, example(), "T", c.v, fine, l, c.e, c.e)
			refuse(t, example(), "T", c.v, read(`{"c":[]}`), l, c.e, c.e)
		}
		refuse(t, example(), "T", fine, c.v, nil, c.e, api.OK)
		refuse(t, example(), "Nix", c.v, c.v, none, api.ErrSchemaRef, api.ErrSchemaRef)
		refuse(t, broken(), "T", c.v, c.v, none, api.ErrSchemaRef, api.ErrSchemaRef)
		refuse(t, api.Schema{Types: make([]api.Type, 257)}, "Nix", c.v, c.v, none, api.ErrSchemaLimit, api.ErrSchemaLimit)
		refuse(t, api.Schema{Types: []api.Type{{Name: "A", Kind: api.TypeName, Elem: "A"}}}, "int", c.v, c.v, none, api.ErrSchemaLoop, api.ErrSchemaLoop)
	}
	refuse(t, example(), "C", num(1), num(0), nil, api.ErrEnum, api.OK)
	refuse(t, example(), "C", num(0), num(1), nil, api.ErrEnum, api.ErrEnum)
	refuse(t, example(), "t", fine, fine, nil, api.ErrSchemaRef, api.ErrSchemaRef)
	refuse(t, example(), "", fine, fine, nil, api.ErrSchemaRef, api.ErrSchemaRef)
}

func TestNoSets(t *testing.T) {
	far := slices.Repeat(api.Path{field("n")}, 33)
	for _, c := range []struct {
		l []api.Path
		e api.Errno
	}{
		{set(".b", ".a"), api.ErrSet}, {set(".a", ".a"), api.ErrSet}, {set(".a.b", ".a"), api.ErrSet}, {set(".a", ""), api.ErrSet}, {set("", ""), api.ErrSet}, {set("[id=10]", "[id=9]"), api.ErrSet},
		{[]api.Path{{{}}}, api.ErrPath}, {[]api.Path{{{Kind: 9}}}, api.ErrPath}, {[]api.Path{far}, api.ErrPath}, {[]api.Path{{field("\xff")}}, api.ErrPath}, {[]api.Path{{item(null)}}, api.ErrPath}, {[]api.Path{{key()}}, api.ErrPath}, {[]api.Path{{{Kind: api.ElemField, Name: "a", Item: num(1)}}}, api.ErrPath},
		{append(set(".a", ".b", ".b"), api.Path{{}}), api.ErrSet}, {append(set(".b"), api.Path{{}}, way(".a")), api.ErrPath},
	} {
		for _, x := range []struct {
			typ string
			v   api.Value
		}{{"T", read(`{"a":1}`)}, {"T", object()}, {"int", num(1)}, {"Strs", list()}} {
			left, e := Drop(example(), x.typ, x.v, c.l)
			of, f := Extract(example(), x.typ, x.v, c.l)
			if e != c.e || f != c.e || !same(left, null) || !same(of, null) {
				t.Errorf("P13.3: %s, %s, %s: %d, %d, want %d", x.typ, show(x.v), tell(c.l), e, f, c.e)
			}
		}
	}
	if left, of, e := checkParts(t, example(), "N", read(`{"a":1}`), []api.Path{far[:32]}); e != api.OK || show(left) != `{"a":1}` || show(of) != `{}` {
		t.Errorf("P13.3: the longest path: %s, %s, %d", show(left), show(of), e)
	}
}

// members is a set of the texts of some numbers.
func members(from, to int) api.Value {
	v := list()
	for i := from; i < to; i++ {
		v.List = append(v.List, text(strconv.Itoa(1000000+i)))
	}
	return v
}

// elements is elements of a keyed list, some without more than their keys.
func elements(from, to int, x string) api.Value {
	v := list()
	for i := from; i < to; i++ {
		e := object(at("id", num(i)))
		if x != "" {
			e.Map = append(e.Map, at("x", text(x)))
		}
		v.List = append(v.List, e)
	}
	return v
}

func long(n int) api.Value { return text(strings.Repeat("x", n)) }

// What is merged may be just so large as its limits let it be.
func TestLarge(t *testing.T) {
	const all = 1048576
	zeros := func(n int) api.Value { return list(slices.Repeat([]api.Value{num(0)}, n)...) }
	for i, c := range []struct {
		typ          string
		live, config api.Value
		e            api.Errno
	}{
		{"Strs", members(0, 40000), members(30000, 65535), api.OK}, {"Strs", members(0, 40000), members(30000, 65536), api.ErrNodes}, {"Strs", members(0, 65535), members(0, 65535), api.OK}, {"Strs", members(0, 65535), members(65535, 131070), api.ErrNodes}, {"Strs", members(1, 65536), members(0, 1), api.ErrNodes},
		{"Es", elements(0, 20000, "y"), elements(10000, 21845, "z"), api.OK}, {"Es", elements(0, 20000, "y"), elements(10000, 21846, "z"), api.ErrNodes}, {"Es", elements(0, 21845, ""), elements(0, 21845, "z"), api.OK}, {"Es", elements(0, 32767, ""), elements(0, 1, "z"), api.OK}, {"Es", elements(0, 32767, ""), elements(0, 2, "z"), api.ErrNodes},
		{"T", object(at("w", zeros(65533))), object(at("w", zeros(65534))), api.OK}, {"T", object(at("w", zeros(65534))), object(at("a", num(1))), api.ErrNodes}, {"T", object(at("w", zeros(65533))), object(at("a", num(1))), api.OK},
		{"M", object(at("a", long(all-1))), object(at("a", long(all-1))), api.OK}, {"M", object(at("a", long(all-2))), object(at("b", text(""))), api.OK}, {"M", object(at("a", long(all-1))), object(at("b", text(""))), api.ErrBytes}, {"M", object(at("a", long(all-2))), object(at("b", text("c"))), api.ErrBytes}, {"M", object(at("a", long(all/2))), object(at("b", long(all/2))), api.ErrBytes},
		{"Strs", list(long(all)), list(text("")), api.OK}, {"Strs", list(long(all)), list(text("a")), api.ErrBytes}, {"string", long(all), long(all - 1), api.OK},
		// the first fault in the value's order
		{"T", object(at("s", list(long(all-3)))), object(at("w", zeros(65534))), api.ErrNodes}, {"T", object(at("m", object(at("k", long(all-2))))), object(at("w", zeros(65534))), api.ErrBytes}, {"T", object(at("l", elements(0, 32766, ""))), object(at("m", object(at("k", long(all-2))))), api.ErrBytes}, {"T", object(at("l", elements(0, 32767, ""))), object(at("m", object(at("k", long(all-2))))), api.ErrNodes},
	} {
		v, e := Merge(example(), c.typ, c.live, c.config)
		if want, f := wantMerge(example(), c.typ, c.live, c.config); e != c.e || e != f || !same(v, want) {
			t.Errorf("P13.2: %d: %d, %d, want %d", i, e, f, c.e)
		}
		if i%5 == 0 { // each takes its time
			checkDiff(t, example(), c.typ, c.live, c.config)
		}
	}
}

// The parts of a large value, chosen by a large set.
func TestLargeParts(t *testing.T) {
	v := elements(0, 21845, "y")
	d, e := Diff(example(), "Es", list(), v)
	if e != api.OK || len(d.Added) != 2*21845 || len(d.Changed)+len(d.Removed) != 0 {
		t.Fatalf("P13.1: %d, %d", len(d.Added), e)
	}
	var odd []api.Path
	for i := 1; i < len(d.Added); i += 2 {
		odd = append(odd, d.Added[i])
	}
	if left, e := Drop(example(), "Es", v, odd); e != api.OK || !same(left, elements(0, 21845, "")) {
		t.Errorf("P13.3: Drop of %d: %d", len(odd), e)
	}
	if of, e := Extract(example(), "Es", v, odd); e != api.OK || !same(of, v) {
		t.Errorf("P13.3: Extract of %d: %d", len(odd), e)
	}
	if left, e := Drop(example(), "Es", v, d.Added); e != api.OK || !same(left, list()) {
		t.Errorf("P13.3: Drop of all: %d", e)
	}
}

// within is something below so many fields n.
func within(n int, v api.Value) api.Value {
	for range n {
		v = object(at("n", v))
	}
	return v
}

// trees is lists in one another, so deep.
func trees(n int) api.Value {
	v := list()
	for range n {
		v = list(v)
	}
	return v
}

// No merge is deeper than what was merged: both may be as deep as values may be.
func TestDeep(t *testing.T) {
	l := []api.Value{within(31, object(at("a", num(1)))), within(31, object(at("a", num(2)), at("w", list()))), within(30, object(at("s", list(text("a"))))), within(29, object(at("es", elements(0, 2, "y")))), within(29, object(at("es", elements(1, 3, "")))), within(0, object(at("w", trees(31)))), within(31, object(at("w", trees(0)))), within(15, object(at("a", num(3)), at("w", trees(16))))}
	for _, a := range l {
		for _, b := range l {
			v, e := checkMerge(t, example(), "N", a, b)
			if e != api.OK || !validate.IsNormal(example(), "N", v) {
				t.Errorf("P13.2: Merge(%s, %s): %d", show(a), show(b), e)
			}
			d := checkDiff(t, example(), "N", a, b)
			checkLaws(t, example(), "N", a, b, d.Removed)
			checkLaws(t, example(), "N", a, b, d.Changed)
		}
	}
	for _, v := range []api.Value{within(32, object(at("a", num(1)))), object(at("w", trees(32))), within(30, object(at("es", elements(0, 1, ""))))} {
		refuse(t, example(), "N", v, object(), nil, api.ErrDeep, api.ErrDeep)
		refuse(t, example(), "N", object(), v, nil, api.ErrDeep, api.OK)
	}
}

// A walk meets each thing of two rising lists once, rising, and with it what is like it.
func TestWalk(t *testing.T) {
	for bits := range 1 << 10 {
		var a []int
		var b, want, got []string
		for i := range 5 {
			inA, inB, n := bits>>i&1, bits>>(5+i)&1, strconv.Itoa(i)
			a = append(a, slices.Repeat([]int{i}, inA)...)
			b = append(b, slices.Repeat([]string{n}, inB)...)
			if inA+inB > 0 {
				want = append(want, strings.Repeat(n, inA)+"|"+strings.Repeat(n, inB))
			}
		}
		walk(a, b, func(x int, y string) int { return strings.Compare(strconv.Itoa(x), y) }, func(x *int, y *string) {
			met := "|"
			if x != nil {
				met = strconv.Itoa(*x) + met
			}
			if y != nil {
				met += *y
			}
			got = append(got, met)
		})
		if !slices.Equal(got, want) {
			t.Fatalf("P13.1: %v and %v: %v, want %v", a, b, got, want)
		}
	}
}
