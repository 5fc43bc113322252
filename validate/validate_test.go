package validate

import (
	"slices"
	"strconv"
	"strings"
	"testing"

	"freehold/api"
	"freehold/pointer"
	"freehold/schema"
	"freehold/value"
)

// example is the chapter's types, by hand, and some more: other names, sets and keys of every scalar, lists that are whole.
func example() api.Schema {
	return api.Schema{
		Types: []api.Type{
			{Name: "At", Kind: api.TypeStruct, Atomic: true, Fields: fields("u", "int", "v", "Ints")},
			{Name: "Bag", Kind: api.TypeMap, Elem: "Es"},
			{Name: "Bools", Kind: api.TypeList, Rel: api.Set, Elem: "bool"},
			{Name: "C", Kind: api.TypeStr, Enum: []api.Value{text("g"), text("r")}},
			{Name: "Cs", Kind: api.TypeList, Rel: api.Set, Elem: "C"},
			{Name: "E", Kind: api.TypeStruct, Fields: fields("id", "int", "x", "string")},
			{Name: "Eight", Kind: api.TypeStruct, Fields: fields("a", "bool", "b", "int", "c", "string", "d", "C", "e", "int", "f", "int", "g", "int", "h", "string", "more", "Es")},
			{Name: "Eights", Kind: api.TypeList, Rel: api.Keyed, Keys: []string{"a", "b", "c", "d", "e", "f", "g", "h"}, Elem: "Eight"},
			{Name: "Es", Kind: api.TypeList, Rel: api.Keyed, Keys: []string{"id"}, Elem: "E"},
			{Name: "Frozen", Kind: api.TypeMap, Atomic: true, Elem: "T"},
			{Name: "Ints", Kind: api.TypeList, Rel: api.Set, Elem: "int"},
			{Name: "M", Kind: api.TypeMap, Elem: "int"},
			{Name: "N", Kind: api.TypeStruct, Fields: fields("a/b", "bool", "next", "N", "~", "T")},
			{Name: "Other", Kind: api.TypeName, Elem: "T"},
			{Name: "Pair", Kind: api.TypeStruct, Fields: fields("k", "string", "l", "string")},
			{Name: "Pairs", Kind: api.TypeList, Rel: api.Keyed, Keys: []string{"k", "l"}, Elem: "Pair"},
			{Name: "Strs", Kind: api.TypeList, Rel: api.Set, Elem: "string"},
			{Name: "T", Kind: api.TypeStruct, Fields: fields("a", "int", "at", "At", "c", "C", "l", "Es", "m", "M", "s", "Ints")},
			{Name: "W", Kind: api.TypeList, Elem: "W2"},
			{Name: "W2", Kind: api.TypeList, Elem: "T"},
		},
		Roots: []api.Root{{Kind: "bag", Type: "Bag"}, {Kind: "o", Type: "Other"}, {Kind: "t", Type: "T"}},
	}
}

func TestOf(t *testing.T) {
	for _, c := range []struct {
		kind, typ string
		e         api.Errno
	}{{"t", "T", 0}, {"o", "Other", 0}, {"bag", "Bag", 0}, {"no such kind", "", 86}, {"T", "", 86}, {"", "", 86}, {"\xff", "", 86}} {
		if typ, e := Of(example(), c.kind); typ != c.typ || e != c.e {
			t.Errorf("P8.1: Of(%q) = %q, %d, want %q, %d", c.kind, typ, e, c.typ, c.e)
		}
	}
	if typ, e := Of(api.Schema{}, "t"); typ != "" || e != api.ErrKind {
		t.Errorf("P8.1: Of a schema without kinds = %q, %d", typ, e)
	}
	for _, kind := range []string{"t", "no such kind"} {
		if typ, e := Of(broken(), kind); typ != "" || e != api.ErrSchemaRef {
			t.Errorf("P8.1: Of(%s) of a schema that may not be = %q, %d", kind, typ, e)
		}
	}
}

// broken is the example with a kind, the last one, of a type that is not there.
func broken() api.Schema {
	s := example()
	s.Roots = append(s.Roots, api.Root{Kind: "u", Type: "no such type"})
	return s
}

// told is a value, and what Check tells of it.
type told struct {
	text, place string
	e           api.Errno
}

func checkTold(t *testing.T, typ string, l []told) {
	t.Helper()
	for _, c := range l {
		v := read(c.text)
		place, e := Check(example(), typ, v)
		if place != c.place || e != c.e {
			t.Errorf("P8.2: Check(%s, %s) = %q, %d, want %q, %d", typ, c.text, place, e, c.place, c.e)
		}
		checkAll(t, example(), typ, v)
	}
}

func TestExamplesOfCheck(t *testing.T) {
	checkTold(t, "T", []told{
		{`{"a":1}`, "", 0}, {`{}`, "", 0}, {`{"a":null}`, "", 0}, {`{"m":{"k":null}}`, "", 0},
		{`{"b":1}`, "/b", 81}, {`{"b":null}`, "/b", 81}, {`null`, "", 82}, {`5`, "", 80}, {`{"a":"x"}`, "/a", 80}, {`{"c":"b"}`, "/c", 85},
		{`{"s":[1,2,1]}`, "/s/2", 83}, {`{"s":[null]}`, "/s/0", 82}, {`{"l":[{"x":"q"}]}`, "/l/0", 84}, {`{"l":[{"id":null}]}`, "/l/0", 84}, {`{"l":[{"id":"a"}]}`, "/l/0/id", 80},
		{`{"l":[{"id":1},{"id":1,"x":"q"}]}`, "/l/1", 83}, {`{"l":[{"id":1},{"id":1,"x":5}]}`, "/l/1/x", 80}, {`{"l":[{"y":1}]}`, "/l/0", 84},
		{`{"at":{"v":[1,1]}}`, "/at/v/1", 83},
	})
	if place, e := Check(example(), "no such type", null); place != "" || e != api.ErrSchemaRef {
		t.Errorf("P8.2: Check of no type = %q, %d", place, e)
	}
	if place, e := Check(example(), "T", read(strings.Repeat("[", 34)+strings.Repeat("]", 34))); place != "" || e != api.ErrDeep {
		t.Errorf("P8.2: Check of a value 33 deep = %q, %d", place, e)
	}
}

// Each type against each sort of value, and each value where null may stand and where it may not.
func TestShapes(t *testing.T) {
	values := []string{"null", "true", "7", `"g"`, "[]", "{}"}
	for typ, ok := range map[string]string{"bool": "true", "int": "7", "string": `"g"`, "C": `"g"`, "T": "{}", "Other": "{}", "At": "{}", "M": "{}", "Frozen": "{}", "Ints": "[]", "Es": "[]", "W": "[]"} {
		for _, v := range values {
			want := api.Errno(api.ErrShape)
			if v == "null" {
				want = api.ErrNull
			} else if v == ok {
				want = api.OK
			}
			checkTold(t, typ, []told{{v, "", want}})
		}
	}
	checkTold(t, "W", []told{{`[null]`, "/0", 82}, {`[[null]]`, "/0/0", 82}, {`[[{"a":null}]]`, "", 0}, {`[[{"q":null}]]`, "/0/0/q", 81}, {`[[],[{}],[{},{}]]`, "", 0}, {`[[{"a":1}],[{"a":true}]]`, "/1/0/a", 80}})
	checkTold(t, "Es", []told{{`[null]`, "/0", 82}, {`[[]]`, "/0", 80}, {`[5]`, "/0", 80}, {`[{"id":1,"x":null}]`, "", 0}, {`[{"id":1},{"id":2},{"id":3},{"id":2}]`, "/3", 83}})
	checkTold(t, "Bag", []told{{`{"":null,"k":[]}`, "", 0}, {`{"":{}}`, "/", 80}, {`{"/~":[{"id":1},{}]}`, "/~1~0/1", 84}, {`{"~":[{"id":1,"/":2}]}`, "/~0/0/~1", 81}})
	checkTold(t, "Frozen", []told{{`{"k":null}`, "", 0}, {`{"k":{"l":[{"id":null}]}}`, "/k/l/0", 84}, {`{"k":{"l":[{"id":1,"x":null}]}}`, "", 0}, {`{"k":{"s":[2,1,2]}}`, "/k/s/2", 83}, {`{"k":{"at":{"v":[null]}}}`, "/k/at/v/0", 82}})
	checkTold(t, "N", []told{{`{"next":{"next":{"a/b":1}}}`, "/next/next/a~1b", 80}, {`{"~":{"q":1}}`, "/~0/q", 81}, {`{"next":{"next":null}}`, "", 0}})
	checkTold(t, "C", []told{{`"r"`, "", 0}, {`"gr"`, "", 85}, {`""`, "", 85}, {`"s"`, "", 85}, {`"f"`, "", 85}})
	checkTold(t, "Cs", []told{{`["r","g"]`, "", 0}, {`["r","x"]`, "/1", 85}, {`["r","r","x"]`, "/1", 83}, {`["x","x"]`, "/0", 85}})
}

// Of two faults the first counts: that of the value ahead of those of what it holds, and what it holds in its order; only what stands twice is told behind what lies within.
func TestOrderOfFaults(t *testing.T) {
	checkTold(t, "T", []told{
		{`{"a":"x","b":1}`, "/a", 80}, {`{"aa":1,"c":"b"}`, "/aa", 81}, {`{"c":"b","q":1}`, "/c", 85},
		{`{"at":{"u":true,"v":[1,1]},"c":"b"}`, "/at/u", 80}, {`{"at":{"v":[1,1]},"c":"b"}`, "/at/v/1", 83},
		{`{"s":[1,1,null]}`, "/s/1", 83}, {`{"s":[1,null,1]}`, "/s/1", 82}, {`{"s":["x",null]}`, "/s/0", 80}, {`{"s":[2,1,1,2]}`, "/s/2", 83},
		{`{"l":[{"id":1,"q":1},{}]}`, "/l/0/q", 81}, {`{"l":[{"id":1},{"id":1},{}]}`, "/l/1", 83}, {`{"l":[{"id":1},{"id":1,"q":1},{}]}`, "/l/1/q", 81}, {`{"l":[{"a":1,"x":5}]}`, "/l/0", 84},
		{`{"l":[{"id":"1"},{"id":"1"}]}`, "/l/0/id", 80}, {`{"l":[{"a":1,"id":"1"}]}`, "/l/0/a", 81}, {`{"l":[5,{}]}`, "/l/0", 80}, {`{"l":[{},5]}`, "/l/0", 84},
		{`{"a":null,"b":null,"c":5}`, "/b", 81}, {`{"m":{"a":1,"b":null,"c":[]},"s":5}`, "/m/c", 80},
	})
}

// The arguments are asked ahead of the value's faults, from the left, each with the empty place.
func TestOrderOfErrors(t *testing.T) {
	deep := null
	for range 33 {
		deep = object(at("next", deep))
	}
	round := list(null)
	round.List[0] = round
	for _, c := range []struct {
		s   api.Schema
		typ string
		v   api.Value
		e   api.Errno
	}{
		{broken(), "no such type", bad, 72}, {broken(), "T", object(), 72}, {broken(), "T", object(at("b", null)), 72}, {api.Schema{Types: []api.Type{{}}}, "no such type", bad, 71},
		{example(), "no such type", bad, 72}, {example(), "", object(), 72}, {example(), "t", object(), 72}, {example(), "\xff", object(), 72}, {api.Schema{}, "T", object(), 72}, {api.Schema{}, "int", num(1), 0}, {api.Schema{}, "int", object(), 80},
		{example(), "T", bad, 20}, {example(), "T", object(at("b", bad)), 20}, {example(), "T", object(at("b", null), at("a", null)), 20}, {example(), "T", text("\xff"), 20}, {example(), "T", api.Value{Int: 1}, 20},
		{example(), "N", deep, 21}, {example(), "N", deep.Map[0].Val, 0}, {example(), "int", deep, 21}, {example(), "W", round, 21},
		{example(), "Ints", numbers(65535), 0}, {example(), "Ints", numbers(65536), 22}, {example(), "W", numbers(65536), 22}, {example(), "W", numbers(65535), 80},
		{example(), "string", text(strings.Repeat("a", api.MaxText)), 0}, {example(), "string", text(strings.Repeat("a", api.MaxText+1)), 23}, {example(), "T", text(strings.Repeat("a", api.MaxText+1)), 23},
	} {
		place, e := Check(c.s, c.typ, c.v)
		if e != c.e || place != "" && (e < 80 || e > 89) {
			t.Errorf("P8.2: Check(.., %q, ..) = %q, %d, want %d", c.typ, place, e, c.e)
		}
		n, e := Normal(c.s, c.typ, c.v)
		if e != c.e || e != api.OK && !same(n, null) {
			t.Errorf("P8.3: Normal(.., %q, ..) = %d, want %d", c.typ, e, c.e)
		}
		if IsNormal(c.s, c.typ, c.v) && e != api.OK {
			t.Errorf("P8.3: IsNormal(.., %q, ..), and Check is %d", c.typ, e)
		}
	}
}

// numbers is the list of so many, rising.
func numbers(n int) api.Value {
	v := list(make([]api.Value, n)...)
	for i := range v.List {
		v.List[i] = num(i)
	}
	return v
}

func TestExamplesOfNormal(t *testing.T) {
	for _, c := range []struct{ typ, text, normal string }{
		{"T", `{"a":null,"at":{"u":null,"v":[2,1]},"l":[{"id":2,"x":null},{"id":1}],"m":{"k":null},"s":[3,1]}`, `{"at":{"v":[2,1]},"l":[{"id":1},{"id":2}],"s":[1,3]}`},
		{"T", `{"l":[],"m":{},"s":[]}`, `{}`}, {"T", `{"at":{}}`, `{"at":{}}`}, {"T", `{"at":{"u":null,"v":[]}}`, `{"at":{"v":[]}}`}, {"T", `{}`, `{}`}, {"Other", `{"a":1,"m":{}}`, `{"a":1}`},
		{"N", `{"next":{"next":{"next":{},"~":{"m":{"k":null}}}}}`, `{}`}, {"N", `{"next":{"next":{"a/b":null},"~":{"at":{}}}}`, `{"next":{"~":{"at":{}}}}`},
		{"Bag", `{"":[],"a":null,"b":[{"id":2,"x":"q"},{"id":-2,"x":null}]}`, `{"b":[{"id":-2},{"id":2,"x":"q"}]}`},
		{"Frozen", `{"":{},"a":null,"b":{"a":null,"at":{"u":null},"l":[{"id":2,"x":null},{"id":1}],"m":{"k":null},"s":[2,1]}}`, `{"":{},"b":{"at":{},"l":[{"id":2},{"id":1}],"m":{},"s":[2,1]}}`},
		{"W", `[[{"l":[{"id":2},{"id":1}],"m":{},"s":[2,1]},{"a":null}],[]]`, `[[{"l":[{"id":2},{"id":1}],"m":{},"s":[2,1]},{}],[]]`},
		{"Ints", `[]`, `[]`}, {"Es", `[]`, `[]`}, {"M", `{"k":null}`, `{}`}, {"At", `{"u":null}`, `{}`}, {"W", `[]`, `[]`}, {"int", `7`, `7`}, {"string", `""`, `""`}, {"bool", `false`, `false`},
		{"Ints", `[10,9,-1,0,-9223372036854775808,9223372036854775807]`, `[-9223372036854775808,-1,0,9,10,9223372036854775807]`},
		{"Bools", `[true,false]`, `[false,true]`}, {"Strs", `["b","\u00e9","a","","ab","A","\ud83d\ude00","\uffff"]`, `["","A","a","ab","b","\u00e9","\uffff","\ud83d\ude00"]`},
		{"Pairs", `[{"k":"b","l":"a"},{"k":"ab","l":"c"},{"k":"a","l":"bc"},{"k":"a","l":""},{"k":"","l":"abc"}]`, `[{"k":"","l":"abc"},{"k":"a","l":""},{"k":"a","l":"bc"},{"k":"ab","l":"c"},{"k":"b","l":"a"}]`},
	} {
		n, e := Normal(example(), c.typ, read(c.text))
		if e != api.OK || !same(n, read(c.normal)) {
			t.Errorf("P8.3: Normal(%s, %s) = %s, %d, want %s", c.typ, c.text, show(n), e, c.normal)
		}
		if got := IsNormal(example(), c.typ, read(c.text)); got != (c.text == c.normal) {
			t.Errorf("P8.3: IsNormal(%s, %s) = %v", c.typ, c.text, got)
		}
		if !IsNormal(example(), c.typ, read(c.normal)) {
			t.Errorf("P8.3: IsNormal(%s, %s) = false", c.typ, c.normal)
		}
		checkAll(t, example(), c.typ, read(c.text))
	}
}

// All eight key fields count, for what stands twice as for the order, the first most.
func TestEightKeys(t *testing.T) {
	elem := func(changed int) api.Value {
		v := read(`{"a":false,"b":0,"c":"","d":"g","e":0,"f":0,"g":0,"h":"","more":[{"id":2},{"id":1}]}`)
		if changed >= 0 {
			v.Map[changed].Val = []api.Value{truth(true), num(1), text("x"), text("r"), num(1), num(1), num(1), text("x")}[changed]
		}
		return v
	}
	var l, want api.Value = list(), list(elem(-1))
	for i := range 8 {
		l.List = append(l.List, elem(i))
		want.List = append(want.List, elem(7-i))
	}
	l.List = append(l.List, elem(-1))
	for i := range want.List {
		want.List[i].Map[8].Val = read(`[{"id":1},{"id":2}]`)
	}
	checkAll(t, example(), "Eights", l)
	if n, e := Normal(example(), "Eights", l); e != api.OK || !same(n, want) {
		t.Errorf("P8.3: Normal of eight keys = %s, %d", show(n), e)
	}
	for i := range 9 {
		again := list(append(slices.Clone(l.List), elem(i-1))...)
		if place, e := Check(example(), "Eights", again); place != "/9" || e != api.ErrTwice {
			t.Errorf("P8.2: eight keys twice: %q, %d", place, e)
		}
	}
	for i := range 8 {
		for _, v := range []api.Value{object(slices.Concat(elem(-1).Map[:i], elem(-1).Map[i+1:])...), elem(-1)} {
			if len(v.Map) == 9 {
				v.Map[i].Val = null
			}
			if place, e := Check(example(), "Eights", list(v)); place != "/0" || e != api.ErrKey {
				t.Errorf("P8.2: without a key field: %q, %d", place, e)
			}
		}
	}
}

// Lists as long as a value may hold them, in the order that is farthest off, and with their first element again at their end.
func TestLongLists(t *testing.T) {
	ints, strs, es := numbers(65534), list(), list()
	for i := range 65534 {
		strs.List = append(strs.List, text(strconv.Itoa(100000+i)))
	}
	for i := range 21844 {
		es.List = append(es.List, object(at("id", num(i)), at("x", text("q"))))
	}
	for typ, v := range map[string]api.Value{"Ints": ints, "Strs": strs, "Es": es} {
		turned := list(slices.Clone(v.List)...)
		slices.Reverse(turned.List)
		if n, e := Normal(example(), typ, turned); e != api.OK || !same(n, v) || IsNormal(example(), typ, turned) || !IsNormal(example(), typ, v) {
			t.Errorf("P8.3: Normal of a long list of %s: %d", typ, e)
		}
		turned.List = append(turned.List, turned.List[0])
		if place, e := Check(example(), typ, turned); e != api.ErrTwice || place != "/"+strconv.Itoa(len(v.List)) {
			t.Errorf("P8.2: a long list of %s: %q, %d", typ, place, e)
		}
	}
}

// Long texts: as one of many members of a set, in an enum, and in a place.
func TestLongTexts(t *testing.T) {
	long := strings.Repeat("m", 400000)
	v, w := list(text(long)), list()
	for i := range 60000 {
		v.List = append(v.List, text(strconv.Itoa(i%10)+"n"+strconv.Itoa(i)))
		w.List = append(w.List, text("a"))
	}
	n, e := Normal(example(), "Strs", v)
	if e != api.OK || !slices.IsSortedFunc(n.List, func(a, b api.Value) int { return strings.Compare(a.Str, b.Str) }) || len(n.List) != 60001 {
		t.Errorf("P8.3: Normal of a set with a long text: %d", e)
	}
	s := api.Schema{Types: []api.Type{{Name: "L", Kind: api.TypeList, Elem: "X"}, {Name: "X", Kind: api.TypeStr, Enum: []api.Value{text("a")}}}}
	for i := range 63 {
		s.Types[1].Enum = append(s.Types[1].Enum, text(strconv.Itoa(10+i)+long))
	}
	slices.SortFunc(s.Types[1].Enum, func(a, b api.Value) int { return strings.Compare(a.Str, b.Str) })
	if place, e := Check(s, "L", w); place != "" || e != api.OK {
		t.Errorf("P8.2: an enum of long texts: %q, %d", place, e)
	}
	w.List[50000] = text("10" + long + "m")
	if place, e := Check(s, "L", w); place != "/50000" || e != api.ErrEnum {
		t.Errorf("P8.2: what an enum of long texts does not have: %q, %d", place, e)
	}
	key := strings.Repeat("~/", 200000)
	place, e := Check(example(), "Bag", object(at("a", null), at(key, list(object()))))
	if want, _ := pointer.Print([]string{key, "0"}); place != want || e != api.ErrKey {
		t.Errorf("P8.2: a long place: %d bytes, %d", len(place), e)
	}
}

// As many types and fields as may be, and names that lead to names.
func TestLargeSchema(t *testing.T) {
	var s api.Schema
	for i := range 256 {
		x := api.Type{Name: "T" + strconv.Itoa(100+i), Kind: api.TypeName, Elem: "T" + strconv.Itoa(101+i)}
		if i == 255 {
			x.Kind, x.Elem = api.TypeStruct, ""
			for k := range 256 {
				x.Fields = append(x.Fields, api.Field{Name: "f" + strconv.Itoa(100+k), Type: []string{"T100", "int", "T355"}[k%3]})
			}
		}
		s.Types = append(s.Types, x)
	}
	if e := schema.Check(s); e != api.OK {
		t.Fatalf("the schema: %d", e)
	}
	full := object()
	for k, f := range s.Types[255].Fields {
		full.Map = append(full.Map, at(f.Name, []api.Value{object(), num(k), null}[k%3]))
	}
	v := object()
	for _, m := range full.Map {
		if m.Val.Kind == api.Map {
			m.Val = full
		}
		v.Map = append(v.Map, m)
	}
	n, e := Normal(s, "T100", v)
	if e != api.OK || len(n.Map) != 86+85 || len(n.Map[0].Val.Map) != 85 || value.Nodes(n) != 1+85+86*86 {
		t.Errorf("P8.3: of a large schema: %d, %d", e, len(n.Map))
	}
	v.Map = append(v.Map, at("f356", null))
	if place, e := Check(s, "T200", v); place != "/f356" || e != api.ErrField {
		t.Errorf("P8.2: of a large schema: %q, %d", place, e)
	}
}
