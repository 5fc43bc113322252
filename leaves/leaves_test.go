package leaves

import (
	"slices"
	"strconv"
	"strings"
	"testing"

	"freehold/api"
	"freehold/schema"
	"freehold/value"
)

// example is the chapter's types, by hand, and some more: other names, enums, atomic ones, lists in lists, types that hold themselves.
func example() api.Schema {
	return api.Schema{
		Types: []api.Type{
			{Name: "At", Kind: api.TypeStruct, Atomic: true, Fields: fields("e", "E", "s", "Strs", "w", "W")},
			{Name: "Bag", Kind: api.TypeMap, Elem: "T"},
			{Name: "Bools", Kind: api.TypeList, Rel: api.Set, Elem: "bool"},
			{Name: "C", Kind: api.TypeInt, Enum: []api.Value{num(-1), num(1), num(2)}},
			{Name: "Cs", Kind: api.TypeList, Rel: api.Set, Elem: "C"},
			{Name: "E", Kind: api.TypeStruct, Fields: fields("id", "int", "x", "string")},
			{Name: "Es", Kind: api.TypeList, Rel: api.Keyed, Keys: []string{"id"}, Elem: "E"},
			{Name: "Fm", Kind: api.TypeMap, Atomic: true, Elem: "M"},
			{Name: "Ls", Kind: api.TypeMap, Elem: "Ws"},
			{Name: "M", Kind: api.TypeMap, Elem: "string"},
			{Name: "N", Kind: api.TypeStruct, Fields: fields("a", "int", "es", "Es", "n", "N", "s", "Strs", "w", "Tree")},
			{Name: "Other", Kind: api.TypeName, Elem: "T"},
			{Name: "P", Kind: api.TypeStruct, Fields: fields("a", "string", "b", "C", "m", "M", "p", "bool", "ps", "Ps", "q", "string", "z", "Zip")},
			{Name: "Ps", Kind: api.TypeList, Rel: api.Keyed, Keys: []string{"b", "p"}, Elem: "P"},
			{Name: "Strs", Kind: api.TypeList, Rel: api.Set, Elem: "string"},
			{Name: "T", Kind: api.TypeStruct, Fields: fields("a", "int", "l", "Es", "m", "M", "s", "Strs", "w", "W")},
			{Name: "Tree", Kind: api.TypeList, Elem: "Tree"},
			{Name: "U", Kind: api.TypeStruct, Fields: fields("at", "At", "b", "bool", "bs", "Bools", "c", "C", "e", "E", "fm", "Fm", "n", "N", "o", "Other", "ps", "Ps", "t", "T", "u", "U")},
			{Name: "W", Kind: api.TypeList, Elem: "int"},
			{Name: "Ws", Kind: api.TypeName, Elem: "W"},
			{Name: "Zip", Kind: api.TypeName, Elem: "string"},
		},
		Roots: []api.Root{{Kind: "t", Type: "T"}},
	}
}

// broken is the example with a kind of a type that is not there.
func broken() api.Schema {
	s := example()
	s.Roots = append(s.Roots, api.Root{Kind: "u", Type: "no such type"})
	return s
}

const whole1 = `{"a":1,"l":[{"id":2,"x":"q"},{"id":3}],"m":{"k":"v"},"s":["p"],"w":[3,1]}`

func TestThereAndBack(t *testing.T) {
	for _, c := range []struct {
		typ, v string
		lines  []string
	}{
		{"T", whole1, []string{".a 1", ".l[id=2]", `.l[id=2].x "q"`, ".l[id=3]", `.m.k "v"`, `.s[="p"]`, ".w [3,1]"}},
		{"Other", whole1, []string{".a 1", ".l[id=2]", `.l[id=2].x "q"`, ".l[id=3]", `.m.k "v"`, `.s[="p"]`, ".w [3,1]"}},
		{"T", `{}`, nil}, {"M", `{}`, nil}, {"Es", `[]`, nil}, {"Strs", `[]`, nil}, {"U", `{}`, nil},
		// the root is a leaf
		{"int", `5`, []string{" 5"}}, {"bool", `false`, []string{" false"}}, {"string", `""`, []string{` ""`}}, {"C", `2`, []string{" 2"}}, {"Zip", `"z"`, []string{` "z"`}},
		{"W", `[]`, []string{" []"}}, {"Ws", `[2,1,2]`, []string{" [2,1,2]"}}, {"At", `{}`, []string{" {}"}}, {"Fm", `{"a":{}}`, []string{` {"a":{}}`}}, {"Tree", `[[],[[]]]`, []string{" [[],[[]]]"}},
		// the root is a list, or a map
		{"Strs", `["","B","a"]`, []string{`[=""]`, `[="B"]`, `[="a"]`}}, {"Bools", `[false,true]`, []string{"[=false]", "[=true]"}}, {"Cs", `[-1,2]`, []string{"[=-1]", "[=2]"}},
		{"Es", `[{"id":-5},{"id":9,"x":""},{"id":10}]`, []string{"[id=-5]", "[id=9]", `[id=9].x ""`, "[id=10]"}},
		{"M", `{"":"a","B":"","a":"c"}`, []string{`."" "a"`, `.B ""`, `.a "c"`}},
		{"Ls", `{"a":[],"b":[1]}`, []string{".a []", ".b [1]"}},
		{"Bag", `{"k":{"a":1},"l":{"s":["x"]}}`, []string{".k.a 1", `.l.s[="x"]`}},
		// what is atomic is one leaf, whatever it holds
		{"U", `{"at":{}}`, []string{".at {}"}}, {"U", `{"at":{"e":{},"s":["b","a"],"w":[]}}`, []string{`.at {"e":{},"s":["b","a"],"w":[]}`}},
		{"U", `{"fm":{}}`, []string{".fm {}"}}, {"U", `{"fm":{"k":{"l":"v"}}}`, []string{`.fm {"k":{"l":"v"}}`}},
		// a struct with an element's type that is none: there the key fields are leaves
		{"U", `{"e":{"id":7,"x":"y"}}`, []string{".e.id 7", `.e.x "y"`}}, {"U", `{"e":{"x":"y"}}`, []string{`.e.x "y"`}}, {"E", `{"id":1}`, []string{".id 1"}},
		{"U", `{"b":false,"c":-1,"o":{"a":0},"t":{"a":0},"u":{"u":{"b":true}}}`, []string{".b false", ".c -1", ".o.a 0", ".t.a 0", ".u.u.b true"}},
		// two key fields, other fields ahead of them, between them and behind; elements within elements
		{"Ps", `[{"a":"x","b":1,"p":false},{"b":1,"m":{"k":"v"},"p":true,"q":"","z":"w"},{"b":2,"p":false}]`, []string{"[b=1,p=false]", `[b=1,p=false].a "x"`, "[b=1,p=true]", `[b=1,p=true].m.k "v"`, `[b=1,p=true].q ""`, `[b=1,p=true].z "w"`, "[b=2,p=false]"}},
		{"Ps", `[{"b":1,"p":true,"ps":[{"b":-1,"p":true},{"b":1,"p":true,"q":"r"}]},{"b":2,"p":true,"ps":[{"b":2,"p":true}]}]`, []string{"[b=1,p=true]", "[b=1,p=true].ps[b=-1,p=true]", "[b=1,p=true].ps[b=1,p=true]", `[b=1,p=true].ps[b=1,p=true].q "r"`, "[b=2,p=true]", "[b=2,p=true].ps[b=2,p=true]"}},
	} {
		v, l := read(c.v), row(c.lines...)
		if got, e := Of(example(), c.typ, v); e != api.OK || !same(got, l) {
			t.Errorf("P12.1: Of(%s, %s) = %s, %d, want %s", c.typ, c.v, tell(got), e, tell(l))
		}
		if got, at, e := Value(example(), c.typ, l); e != api.OK || at != -1 || !same(got, v) {
			t.Errorf("P12.2: Value(%s, %s) = %s, %d, %d, want %s", c.typ, tell(l), show(got), at, e, c.v)
		}
		checkBack(t, example(), c.typ, v)
	}
}

func TestNoLeaves(t *testing.T) {
	deep := value.Clone(null)
	for range 33 {
		deep = list(deep)
	}
	for _, c := range []struct {
		s   api.Schema
		typ string
		v   api.Value
		e   api.Errno
	}{
		{example(), "T", read(`{"m":{}}`), api.ErrLeaf}, {example(), "T", read(`{"s":[]}`), api.ErrLeaf}, {example(), "T", read(`{"l":[]}`), api.ErrLeaf}, {example(), "U", read(`{"t":{}}`), api.ErrLeaf}, {example(), "U", read(`{"t":{"m":{}}}`), api.ErrLeaf},
		{example(), "T", read(`{"a":null}`), api.ErrLeaf}, {example(), "U", read(`{"at":{"w":null}}`), api.ErrLeaf}, {example(), "At", read(`{"w":null}`), api.ErrLeaf}, {example(), "M", read(`{"k":null}`), api.ErrLeaf},
		{example(), "T", read(`{"s":["b","a"]}`), api.ErrLeaf}, {example(), "T", read(`{"l":[{"id":3},{"id":2}]}`), api.ErrLeaf}, {example(), "Es", read(`[{"id":10},{"id":9}]`), api.ErrLeaf}, {example(), "Es", read(`[{"id":1,"x":null}]`), api.ErrLeaf},
		{example(), "T", read(`{"q":1}`), api.ErrField}, {example(), "T", read(`{"a":"x"}`), api.ErrShape}, {example(), "T", null, api.ErrNull}, {example(), "T", list(), api.ErrShape}, {example(), "C", num(0), api.ErrEnum},
		{example(), "T", read(`{"s":["a","a"]}`), api.ErrTwice}, {example(), "T", read(`{"l":[{"x":"q"}]}`), api.ErrKey}, {example(), "At", read(`{"s":["a","a"]}`), api.ErrTwice},
		{example(), "T", read(`{"m":{},"q":1}`), api.ErrField}, {example(), "T", read(`{"a":null,"w":[null]}`), api.ErrNull}, // not valid ahead of not normal
		{example(), "Tree", deep, api.ErrDeep}, {example(), "T", deep, api.ErrDeep}, {example(), "T", api.Value{Kind: 9}, api.ErrValue}, {example(), "T", object(at("b", null), at("a", null)), api.ErrValue},
		{example(), "T", list(make([]api.Value, 65536)...), api.ErrNodes}, {example(), "T", text(strings.Repeat("x", 1048577)), api.ErrBytes},
		{example(), "Nix", null, api.ErrSchemaRef}, {example(), "", api.Value{Kind: 9}, api.ErrSchemaRef}, {example(), "t", object(), api.ErrSchemaRef},
		{broken(), "Nix", api.Value{Kind: 9}, api.ErrSchemaRef}, {api.Schema{Types: make([]api.Type, 257)}, "Nix", null, api.ErrSchemaLimit},
		{api.Schema{Types: []api.Type{{Name: "A", Kind: api.TypeName, Elem: "A"}}}, "int", num(1), api.ErrSchemaLoop},
	} {
		if l, e := Of(c.s, c.typ, c.v); e != c.e || l != nil {
			t.Errorf("P12.1: Of(%s, %s) = %s, %d, want %d", c.typ, show(c.v), tell(l), e, c.e)
		}
		checkOf(t, c.s, c.typ, c.v)
	}
}

// faultOf holds the first leaf that hinders against the place that is wanted.
func faultOf(t *testing.T, typ string, want int, l []api.Leaf) {
	t.Helper()
	if v, at, e := Value(example(), typ, l); e != api.ErrLeaf || at != want || !same(v, null) {
		t.Errorf("P12.2: Value(%s, %s) = %s, %d, %d, want %d, ErrLeaf", typ, tell(l), show(v), at, e, want)
	}
	checkValue(t, example(), typ, l)
}

func TestHindered(t *testing.T) {
	for _, c := range []struct {
		typ   string
		at    int
		lines []string
	}{
		{"T", 0, []string{`.l[id=2].x "q"`}}, {"T", 1, []string{".l[id=2]", ".l[id=2].id 2"}}, {"T", 1, []string{".l[id=2]", `.l[id=3].x "q"`}}, {"T", 2, []string{".l[id=2]", ".l[id=3]", `.l[id=4].x "q"`, ".l[id=4]"}},
		{"T", 0, []string{`.l[id=2].x "q"`, ".l[id=2]"}},                                                                                       // ahead of it there is no element
		{"T", 1, []string{".a 1", ".a 1"}}, {"T", 1, []string{`.m.k "v"`, ".a 1"}}, {"T", 2, []string{".a 1", `.s[="b"]`, `.s[="a"]`, ".a 1"}}, // they do not rise
		{"Es", 1, []string{"[id=10]", "[id=9]"}}, {"Es", 2, []string{"[id=1]", `[id=1].x ""`, "[id=1]"}},
		{"T", 0, []string{".b 1"}}, {"T", 1, []string{".a 1", ".b 1"}}, {"T", 0, []string{".a.b 1"}}, {"T", 0, []string{"[=1]"}}, {"T", 0, []string{"[id=1]"}}, {"T", 0, []string{".w.x 1"}}, {"T", 0, []string{".w[=1]"}}, {"T", 0, []string{`.s[="x"].y 1`}}, {"T", 0, []string{`.s.x 1`}}, {"T", 0, []string{`.s[id="x"]`}}, {"T", 0, []string{`.l.id 1`}}, {"T", 0, []string{".l[=1]"}}, {"M", 0, []string{".a.b 1"}}, {"M", 0, []string{"[=1]"}}, {"At", 0, []string{".w [1]"}}, {"U", 0, []string{`.fm.k.l "v"`}}, // they lead nowhere
		{"T", 0, []string{".s[=1]"}}, {"Cs", 0, []string{"[=3]"}}, {"Cs", 1, []string{"[=1]", "[=3]"}}, {"Bools", 0, []string{"[=0]"}}, {"T", 0, []string{`.l[id="x"]`}}, {"T", 0, []string{`.l[id=1,x="y"]`}}, {"T", 0, []string{`.l[x="y"]`}}, {"Ps", 0, []string{"[b=1]"}}, {"Ps", 0, []string{"[b=3,p=true]"}}, {"Ps", 0, []string{"[b=1,p=1]"}}, {"Ps", 0, []string{`[a="x",b=1,p=true]`}}, // no members or elements
		{"T", 0, []string{` {}`}}, {"T", 0, []string{""}}, {"T", 0, []string{".m {}"}}, {"T", 0, []string{".l []"}}, {"T", 0, []string{`.s ["a"]`}}, {"U", 0, []string{".t"}}, {"U", 0, []string{".t {}"}}, {"Strs", 0, []string{" []"}}, {"Es", 0, []string{""}}, // to no leaf
		{"T", 0, []string{".a"}}, {"T", 0, []string{".a null"}}, {"T", 0, []string{`.a "x"`}}, {"T", 0, []string{".a [1]"}}, {"U", 0, []string{".c 0"}}, {"T", 0, []string{".w [null]"}}, {"T", 0, []string{".w"}}, {"T", 0, []string{`.w ["x"]`}}, {"U", 0, []string{`.at {"w":null}`}}, {"U", 0, []string{`.at {"s":["a","a"]}`}}, {"U", 0, []string{`.at {"q":1}`}}, {"U", 0, []string{`.fm {"k":null}`}}, // not normal
		{"T", 0, []string{`.s[="x"] 1`}}, {"T", 0, []string{`.s[="x"] "x"`}}, {"T", 0, []string{".l[id=2] 5"}}, {"T", 0, []string{".l[id=2] {}"}}, {"T", 0, []string{`.l[id=2] {"id":2}`}}, {"T", 1, []string{".l[id=3]", ".l[id=3].x 5"}}, // with a value
		{"Ps", 1, []string{"[b=1,p=true]", "[b=1,p=true].b 1"}}, {"Ps", 1, []string{"[b=1,p=true]", "[b=1,p=true].p true"}}, {"Ps", 1, []string{"[b=1,p=true]", `[b=1,p=true].ps[b=1,p=true].q ""`}}, {"Ps", 0, []string{"[b=1,p=true].ps[b=1,p=true]"}}, {"Ps", 2, []string{"[b=1,p=true]", "[b=1,p=true].ps[b=1,p=true]", "[b=2,p=true].ps[b=1,p=true]"}}, {"Ps", 2, []string{"[b=1,p=true]", "[b=1,p=true].ps[b=1,p=true]", "[b=1,p=true].ps[b=1,p=true].p true"}},
		{"int", 0, nil}, {"W", 0, nil}, {"At", 0, nil}, {"Fm", 0, nil}, {"Zip", 0, nil}, {"C", 0, nil}, // what is a leaf has one
		{"int", 0, []string{""}}, {"int", 0, []string{` "x"`}}, {"int", 0, []string{".a 1"}}, {"int", 1, []string{" 1", " 1"}}, {"int", 1, []string{" 1", ".a 1"}}, {"W", 1, []string{" []", "[=1]"}}, {"C", 0, []string{" 0"}},
	} {
		faultOf(t, c.typ, c.at, row(c.lines...))
	}
}

// Leaves that no text tells.
func TestOddLeaves(t *testing.T) {
	round := []api.Value{null}
	round[0] = list(round...)
	for _, x := range []api.Leaf{
		{Path: api.Path{{}}}, {Path: api.Path{{Kind: 9}}}, {Path: api.Path{{Kind: api.ElemField, Name: "a", Item: num(1)}}, Val: num(1)}, {Path: api.Path{{Kind: api.ElemField, Name: "a", Key: []api.Member{at("id", num(1))}}}, Val: num(1)},
		{Path: api.Path{field("m"), field("\xff")}, Val: text("v")}, {Path: api.Path{field("s"), item(null)}}, {Path: api.Path{field("s"), item(text("\xff"))}}, {Path: api.Path{field("s"), item(list())}}, {Path: api.Path{field("s"), {Kind: api.ElemItem, Name: "s", Item: text("a")}}},
		{Path: api.Path{field("l"), key()}}, {Path: api.Path{field("l"), key(at("id", null))}}, {Path: api.Path{field("l"), {Kind: api.ElemKey, Name: "l", Key: []api.Member{at("id", num(1))}}}},
		{Path: way(".a"), Val: api.Value{Kind: 9}}, {Path: way(".a"), Val: api.Value{Kind: api.Int, Str: "a"}}, {Path: way(".l[id=1]"), Val: api.Value{Int: 1}}, {Path: way(".l[id=1]"), Val: api.Value{Map: []api.Member{at("id", num(1))}}}, {Path: way(".l[id=1]"), Val: api.Value{Kind: -1}},
		{Path: way(".w"), Val: list(round...)}, {Path: way(".w"), Val: list(text("\xff"))},
	} {
		faultOf(t, "T", 0, []api.Leaf{x})
		faultOf(t, "T", 1, []api.Leaf{{Path: way(".a"), Val: num(1)}, x})
		faultOf(t, "T", 0, []api.Leaf{x, {Path: way(".w"), Val: list()}})
	}
	fine := []api.Leaf{{Path: api.Path{field("a")}, Val: api.Value{Kind: api.Int, Int: 1, List: []api.Value{}, Map: []api.Member{}}}, {Path: api.Path{field("l"), key(at("id", num(1)))}, Val: api.Value{List: []api.Value{}, Map: []api.Member{}}}}
	if v, e := checkValue(t, example(), "T", fine); e != api.OK || show(v) != `{"a":1,"l":[{"id":1}]}` {
		t.Errorf("P12.2: empty lists that are not nil: %s, %d", show(v), e)
	}
}

// The schema and the type are asked ahead of the leaves, each of these ahead of the value that they make.
func TestOrderOfErrors(t *testing.T) {
	bad, large := []api.Leaf{{Path: api.Path{{}}}}, members(65536)
	for _, c := range []struct {
		s   api.Schema
		typ string
		l   []api.Leaf
		at  int
		e   api.Errno
	}{
		{broken(), "Nix", bad, -1, api.ErrSchemaRef}, {broken(), "T", nil, -1, api.ErrSchemaRef}, {api.Schema{Types: make([]api.Type, 257)}, "Nix", bad, -1, api.ErrSchemaLimit}, {api.Schema{Types: []api.Type{{Name: "A", Kind: api.TypeName, Elem: "A"}}}, "Nix", bad, -1, api.ErrSchemaLoop},
		{example(), "Nix", bad, -1, api.ErrSchemaRef}, {example(), "", nil, -1, api.ErrSchemaRef}, {example(), "t", nil, -1, api.ErrSchemaRef},
		{example(), "Strs", slices.Concat(large, bad), 65536, api.ErrLeaf}, {example(), "Strs", slices.Concat(large, large[:1]), 65536, api.ErrLeaf},
		{example(), "Strs", large, -1, api.ErrNodes}, {api.Schema{}, "int", row(" 1"), -1, api.OK}, {api.Schema{}, "int", row(` "a"`), 0, api.ErrLeaf},
	} {
		v, at, e := Value(c.s, c.typ, c.l)
		if at != c.at || e != c.e || e != api.OK && !same(v, null) {
			t.Errorf("P12.2: Value(%s, %s) = %s, %d, %d, want %d, %d", c.typ, tell(c.l), show(v), at, e, c.at, c.e)
		}
	}
}

// members is the leaves of a set of so many strings, rising.
func members(n int) []api.Leaf {
	var l []api.Leaf
	for i := range n {
		l = append(l, api.Leaf{Path: api.Path{item(text(strconv.Itoa(1000000 + i)))}})
	}
	return l
}

// elements is so many elements of a keyed list, rising, each with one more field.
func elements(n int, x api.Value) []api.Leaf {
	var l []api.Leaf
	for i := range n {
		e := key(at("id", num(i)))
		l = append(l, api.Leaf{Path: api.Path{e}}, api.Leaf{Path: api.Path{e, field("x")}, Val: x})
	}
	return l
}

// What leaves make has so many values and bytes as its limits let it have, and not one more.
func TestLarge(t *testing.T) {
	long := func(n int) api.Value { return text(strings.Repeat("x", n)) }
	const all = 1048576
	for i, c := range []struct {
		typ string
		l   []api.Leaf
		e   api.Errno
	}{
		{"Strs", members(65535), api.OK}, {"Strs", members(65536), api.ErrNodes}, {"Strs", members(200000), api.ErrNodes},
		{"Es", elements(21845, text("")), api.OK}, {"Es", elements(21846, text("")), api.ErrNodes}, // each has three values, and the list is one
		{"W", []api.Leaf{{Val: list(slices.Repeat([]api.Value{num(0)}, 65535)...)}}, api.OK}, {"W", []api.Leaf{{Val: list(slices.Repeat([]api.Value{num(0)}, 65536)...)}}, api.ErrLeaf},
		{"Ls", []api.Leaf{{Path: way(".a"), Val: list(slices.Repeat([]api.Value{num(0)}, 65534)...)}}, api.OK}, {"Ls", []api.Leaf{{Path: way(".a"), Val: list(slices.Repeat([]api.Value{num(0)}, 65535)...)}}, api.ErrNodes},
		{"string", []api.Leaf{{Val: long(all)}}, api.OK}, {"string", []api.Leaf{{Val: long(all + 1)}}, api.ErrLeaf},
		{"M", []api.Leaf{{Path: way(".k"), Val: long(all - 1)}}, api.OK}, {"M", []api.Leaf{{Path: way(".k"), Val: long(all)}}, api.ErrBytes},
		{"M", []api.Leaf{{Path: api.Path{field(long(all).Str)}, Val: text("")}}, api.OK}, {"M", []api.Leaf{{Path: api.Path{field(long(all + 1).Str)}, Val: text("")}}, api.ErrBytes},
		{"Strs", []api.Leaf{{Path: api.Path{item(long(all))}}}, api.OK}, {"Strs", []api.Leaf{{Path: api.Path{item(long(all + 1))}}}, api.ErrLeaf}, {"Strs", []api.Leaf{{Path: api.Path{item(text(""))}}, {Path: api.Path{item(text("a"))}}, {Path: api.Path{item(long(all))}}}, api.ErrBytes},
		{"Es", elements(1, long(all-3)), api.OK}, {"Es", elements(1, long(all-2)), api.ErrBytes}, {"Es", elements(16384, long(all/2)), api.ErrBytes},
	} {
		v, at, e := Value(example(), c.typ, c.l)
		if e != c.e || (at == 0) != (e == api.ErrLeaf) || at > 0 || at < -1 || e != api.OK && !same(v, null) {
			t.Errorf("P12.2: %d: %d leaves: %d, %d, want %d", i, len(c.l), at, e, c.e)
		}
		if e != api.OK {
			continue
		}
		if l, e := Of(example(), c.typ, v); e != api.OK || !same(l, c.l) {
			t.Errorf("P12.4: %d: %d leaves, there and back: %d, %d", i, len(c.l), len(l), e)
		}
	}
}

// steps is so many fields of one name, and something behind them.
func steps(n int, name string, more ...api.Elem) api.Path {
	return slices.Concat(slices.Repeat(api.Path{field(name)}, n), more)
}

// trees is lists in one another, so deep.
func trees(n int) api.Value {
	v := list()
	for range n {
		v = list(v)
	}
	return v
}

func TestDeep(t *testing.T) {
	one := key(at("id", num(1)))
	for i, c := range []struct {
		typ string
		l   []api.Leaf
		at  int
		e   api.Errno
	}{
		{"N", []api.Leaf{{Path: steps(31, "n", field("a")), Val: num(1)}}, -1, api.OK},
		{"N", []api.Leaf{{Path: steps(32, "n", field("a")), Val: num(1)}}, 0, api.ErrLeaf}, // no path
		{"N", []api.Leaf{{Path: steps(30, "n", field("s"), item(text("a")))}}, -1, api.OK},
		{"N", []api.Leaf{{Path: steps(31, "n", field("s"), item(text("a")))}}, 0, api.ErrLeaf},
		{"N", []api.Leaf{{Path: steps(29, "n", field("es"), one)}}, -1, api.OK},
		{"N", []api.Leaf{{Path: steps(29, "n", field("es"), one)}, {Path: steps(29, "n", field("es"), one, field("x")), Val: text("")}}, -1, api.OK},
		{"N", []api.Leaf{{Path: steps(30, "n", field("es"), one)}}, -1, api.ErrDeep}, // its key field lies deeper than its path tells
		{"N", []api.Leaf{{Path: steps(30, "n", field("es"), one)}, {Path: steps(30, "n", field("es"), one, field("x")), Val: text("")}}, 1, api.ErrLeaf},
		{"Tree", []api.Leaf{{Val: trees(32)}}, -1, api.OK}, {"Tree", []api.Leaf{{Val: trees(33)}}, 0, api.ErrLeaf},
		{"N", []api.Leaf{{Path: way(".w"), Val: trees(31)}}, -1, api.OK}, {"N", []api.Leaf{{Path: way(".w"), Val: trees(32)}}, -1, api.ErrDeep}, {"N", []api.Leaf{{Path: way(".w"), Val: trees(33)}}, 0, api.ErrLeaf},
		{"N", []api.Leaf{{Path: steps(31, "n", field("w")), Val: list()}}, -1, api.OK}, {"N", []api.Leaf{{Path: steps(31, "n", field("w")), Val: trees(1)}}, -1, api.ErrDeep}, {"N", []api.Leaf{{Path: steps(31, "n", field("w")), Val: trees(32)}}, -1, api.ErrDeep},
	} {
		v, at, e := Value(example(), c.typ, c.l)
		if at != c.at || e != c.e {
			t.Errorf("P12.2: %d: %d, %d, want %d, %d", i, at, e, c.at, c.e)
		}
		checkValue(t, example(), c.typ, c.l)
		if e == api.OK && !same(checkBack(t, example(), c.typ, v), c.l) {
			t.Errorf("P12.4: %d: there and back", i)
		}
	}
}

func TestRows(t *testing.T) {
	l := row(".a 1", ".l[id=2]", `.l[id=2].x "q"`, ".l[id=3]", `.m.k "v"`, `.s[="p"]`, ".w [3,1]")
	if got := tell(Drop(l, []api.Path{way(".l[id=2]")})); got != `.a 1; .l[id=3]; .m.k "v"; .s[="p"]; .w [3,1]` {
		t.Errorf("P12.3: Drop: %s", got)
	}
	if got := tell(Put(l, row(".a 5"))); got != `.a 5; .l[id=2]; .l[id=2].x "q"; .l[id=3]; .m.k "v"; .s[="p"]; .w [3,1]` {
		t.Errorf("P12.3: Put: %s", got)
	}
	if got := tell(Put(row(".a 5", ".b 7", ".c"), row(".a 5", ".b [8]", ".d"))); got != ".a 5; .b [8]; .c; .d" {
		t.Errorf("P12.3: Put: %s", got)
	}
	for _, c := range []struct {
		out  []string
		left string
	}{
		{nil, tell(l)}, {[]string{""}, ""}, {[]string{".w", "", ".a"}, ""}, {[]string{".l"}, `.a 1; .m.k "v"; .s[="p"]; .w [3,1]`}, {[]string{".l[id=2].x"}, `.a 1; .l[id=2]; .l[id=3]; .m.k "v"; .s[="p"]; .w [3,1]`},
		{[]string{".w", ".m", ".m.k", ".l[id=3]", ".l[id=2].x", ".w"}, `.a 1; .l[id=2]; .s[="p"]`}, {[]string{".b", ".l[id=1]", ".l[id=2].y", ".l[id=4]", ".w.x", "[=1]"}, tell(l)}, {[]string{".l[id=2]", ".l[id=2].x", ".l"}, `.a 1; .m.k "v"; .s[="p"]; .w [3,1]`},
	} {
		var out []api.Path
		for _, s := range c.out {
			out = append(out, way(s))
		}
		if got := tell(checkDrop(t, l, out)); got != c.left {
			t.Errorf("P12.3: Drop(%q) = %s", c.out, got)
		}
	}
	for _, c := range []struct{ p, under string }{
		{"", tell(l)}, {".a", ".a 1"}, {".l", `.l[id=2]; .l[id=2].x "q"; .l[id=3]`}, {".l[id=2]", `.l[id=2]; .l[id=2].x "q"`}, {".l[id=2].x", `.l[id=2].x "q"`}, {".l[id=2].y", ""}, {".l[id=1]", ""}, {".s", `.s[="p"]`}, {".w", ".w [3,1]"}, {".w.x", ""}, {"[=1]", ""}, {".", ""}, {".b", ""},
	} {
		p := api.Path{{}}
		if c.p != "." {
			p = way(c.p)
		}
		if got := tell(Under(l, p)); got != c.under {
			t.Errorf("P12.3: Under(%s) = %s", c.p, got)
		}
		checkPath(t, l, p)
	}
	if v, is := Get(l, way(".w")); !is || show(v) != "[3,1]" {
		t.Errorf("P12.3: Get(.w) = %s, %v", show(v), is)
	}
	if v, is := Get(l, way(".l[id=3]")); !is || !same(v, null) {
		t.Errorf("P12.3: Get(.l[id=3]) = %s, %v", show(v), is)
	}
	if v, is := Get(l, way(".l")); is || !same(v, null) {
		t.Errorf("P12.3: Get(.l) = %s, %v", show(v), is)
	}
	if v, is := Get(row(" 5"), nil); !is || v.Int != 5 {
		t.Errorf("P12.3: Get of the root = %s, %v", show(v), is)
	}
	if Put(nil, nil) != nil || Drop(nil, []api.Path{nil}) != nil || Under(nil, nil) != nil || Paths(nil) != nil {
		t.Error("P12.3: of no leaves")
	}
}

// What looks like a path of a leaf, but is none, is above nothing.
func TestNoPaths(t *testing.T) {
	l := row(".a 1", ".l[id=2]", `.l[id=2].x "q"`, `.s[="p"]`)
	for _, p := range []api.Path{
		{{Kind: api.ElemField, Name: "a", Item: num(1)}}, {{Kind: api.ElemField, Name: "a", Key: []api.Member{at("id", num(1))}}}, {field("l"), {Kind: api.ElemKey, Name: "l", Key: []api.Member{at("id", num(2))}}}, {field("l"), key(at("id", api.Value{Kind: api.Int, Int: 2, List: make([]api.Value, 1)}))},
		{field("s"), item(api.Value{Kind: api.Str, Str: "p", Map: make([]api.Member, 1)})}, {{}}, {{Kind: 9, Name: "a"}}, steps(33, "a"), {field("\xff")},
	} {
		checkPath(t, l, p)
		checkPath(t, nil, p)
		checkDrop(t, l, []api.Path{p})
		if got := tell(checkDrop(t, l, []api.Path{p, way(".l"), p})); got != `.a 1; .s[="p"]` {
			t.Errorf("P12.3: Drop with what is no path: %s", got)
		}
	}
}

// Of what no leaves are nothing is said, but that the calls end.
func TestEnds(t *testing.T) {
	round := []api.Value{null}
	round[0] = list(round...)
	odd := []api.Leaf{{Path: steps(40, "a"), Val: list(round...)}, {Path: api.Path{{Kind: 9}}, Val: api.Value{Kind: 9}}, {Path: api.Path{key()}}, {Path: api.Path{item(list(round...))}}, {Path: api.Path{item(null), {}}}, {Path: api.Path{key(at("\xff", list(round...)))}}, {}, {}, {Path: way(".b"), Val: num(1)}, {Path: way(".a")}}
	for i := range odd {
		for k := range odd {
			l, m := slices.Concat(odd[i:], odd[:i]), slices.Concat(odd[k:], odd[:k])
			Put(l, m)
			Drop(l, Paths(m))
			Get(l, m[0].Path)
			Under(l, m[0].Path)
			Value(example(), "T", l)
		}
	}
}

// A large schema is not looked at anew for each leaf: else this would take minutes.
func TestManyAtomicLeaves(t *testing.T) {
	s := api.Schema{}
	for i := range 254 {
		x := api.Type{Name: "A" + strconv.Itoa(1000+i), Kind: api.TypeStruct}
		for k := range 256 {
			x.Fields = append(x.Fields, api.Field{Name: "f" + strconv.Itoa(1000+k), Type: "A" + strconv.Itoa(1000+k%254)})
		}
		s.Types = append(s.Types, x)
	}
	s.Types = append(s.Types, api.Type{Name: "M", Kind: api.TypeMap, Elem: "W"}, api.Type{Name: "W", Kind: api.TypeList, Elem: "int"})
	if e := schema.Check(s); e != api.OK {
		t.Fatalf("the schema: %d", e)
	}
	v := object()
	for i := range 30000 {
		v.Map = append(v.Map, at(strconv.Itoa(100000+i), list(num(i))))
	}
	l, e := Of(s, "M", v)
	if back, at, f := Value(s, "M", l); e != api.OK || f != api.OK || at != -1 || !same(back, v) {
		t.Errorf("P12.4: %d leaves: %d, %d, %d", len(l), e, at, f)
	}
}
