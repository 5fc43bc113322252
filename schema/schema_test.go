package schema

import (
	"fmt"
	"math"
	"math/rand"
	"slices"
	"strings"
	"testing"

	"freehold/api"
	"freehold/value"
)

const toldTypes = `"App":{"struct":{"name":"string","ports":"Ports","tags":"Tags"}},"Port":{"struct":{"note":"string","port":"int","proto":"Proto"}},"Ports":{"keys":["port","proto"],"list":"Port"},"Proto":{"enum":["TCP","UDP"],"scalar":"string"},"Tags":{"list":"string","set":true}`

const told = `{"kinds":{"app":"App"},"types":{` + toldTypes + `}}`

// example is the chapter's schema S, by hand.
func example() api.Schema {
	return api.Schema{
		Types: []api.Type{
			{Name: "App", Kind: api.TypeStruct, Fields: fields("name", "string", "ports", "Ports", "tags", "Tags")},
			{Name: "Port", Kind: api.TypeStruct, Fields: fields("note", "string", "port", "int", "proto", "Proto")},
			{Name: "Ports", Kind: api.TypeList, Elem: "Port", Rel: api.Keyed, Keys: []string{"port", "proto"}},
			{Name: "Proto", Kind: api.TypeStr, Enum: []api.Value{text("TCP"), text("UDP")}},
			{Name: "Tags", Kind: api.TypeList, Elem: "string", Rel: api.Set},
		},
		Roots: []api.Root{{Kind: "app", Type: "App"}},
	}
}

func checkParse(t *testing.T, v api.Value) api.Errno {
	t.Helper()
	s, e := Parse(v)
	if want, f := wantParse(v); e != f || !same(s, want) {
		t.Errorf("P7.2: Parse(%s) = %v, %d, want %v, %d", show(v), s, e, want, f)
	}
	return e
}

func checkSchema(t *testing.T, s api.Schema) api.Errno {
	t.Helper()
	e := Check(s)
	if f := wantCheck(s); e != f {
		t.Errorf("P7.1: Check(%+v) = %d, want %d", s, e, f)
	}
	v, f := Print(s)
	if e != f || e != api.OK && !same(v, null) {
		t.Errorf("P7.2: Print(%+v) = %s, %d, and Check %d", s, show(v), f, e)
	}
	return e
}

func TestExamples(t *testing.T) {
	if s, e := Parse(read(told)); e != api.OK || !same(s, example()) {
		t.Errorf("P7.2: Parse = %v, %d", s, e)
	}
	if v, e := Print(example()); e != api.OK || show(v) != told {
		t.Errorf("P7.2: Print = %s, %d", show(v), e)
	}
	if s, e := Parse(read(`{"kinds":{},"types":{}}`)); e != api.OK || !same(s, api.Schema{}) {
		t.Errorf("P7.2: Parse of what says no types = %v, %d", s, e)
	}
	if v, e := Print(api.Schema{}); e != api.OK || show(v) != `{"kinds":{},"types":{}}` {
		t.Errorf("P7.2: Print of a schema without types = %s, %d", show(v), e)
	}
	for _, c := range []struct {
		text string
		e    api.Errno
	}{
		{`{}`, 70}, {`5`, 70}, {`{"kinds":{}}`, 70}, {`{"types":{}}`, 70}, {`null`, 70}, {`[]`, 70}, {`{"kinds":{},"types":{},"z":{}}`, 70}, {`{"kinds":null,"types":{}}`, 70}, {`{"kinds":{},"types":[]}`, 70}, {`{"kinds":{},"type":{}}`, 70},
		{`{"kinds":{},"types":{"int":{"scalar":"int"}}}`, 71}, {`{"kinds":{},"types":{"1a":{"scalar":"int"}}}`, 71},
		{typed(`,"X":{"scalar":"float"}`), 70}, {typed(`,"X":{"map":"int","atomic":false}`), 70}, {typed(`,"X":{"list":"int","set":true,"keys":["a"]}`), 70}, {typed(`,"X":{"scalar":"int","enum":[]}`), 70},
		{typed(`,"Y":{"map":"X"}`), 72}, {typed(`,"X":{"name":"Y"},"Y":{"name":"X"}`), 73}, {typed(`,"X":{"list":"App","set":true}`), 75}, {typed(`,"X":{"list":"Port","keys":["nix"]}`), 74}, {typed(`,"X":{"list":"Port","keys":["proto","port"]}`), 74}, {typed(`,"X":{"scalar":"int","enum":[2,1]}`), 78}, {typed(`,"X":{"scalar":"int","enum":["a"]}`), 78},
		{`{"kinds":{"x":"Tags"},"types":{` + toldTypes + `}}`, 77}, {`{"kinds":{"x":"string"},"types":{` + toldTypes + `}}`, 77}, {`{"kinds":{"x":"Nix"},"types":{` + toldTypes + `}}`, 72},
		{`{"kinds":{"int":"App"},"types":{` + toldTypes + `}}`, 0}, {`{"kinds":{"app":"App","App":"App"},"types":{` + toldTypes + `}}`, 0},
	} {
		if e := checkParse(t, read(c.text)); e != c.e {
			t.Errorf("P7.1, P7.2: Parse(%s) = %d, want %d", c.text, e, c.e)
		}
	}
}

// typed is the example's text with more types.
func typed(more string) string { return `{"kinds":{"app":"App"},"types":{` + toldTypes + more + `}}` }

// checkType holds an answer against the type of the example that has a name, or none.
func checkType(t *testing.T, does string, got api.Type, e api.Errno, want string, f api.Errno) {
	t.Helper()
	var x api.Type
	if want != "" {
		x = *stands(example(), want)
	}
	if e != f || !same(got, x) {
		t.Errorf("%s = %v, %d, want %q, %d", does, got, e, want, f)
	}
}

func TestExamplesOfNames(t *testing.T) {
	s := example()
	for _, c := range []struct {
		name, want string
		e          api.Errno
	}{{"Ports", "Ports", 0}, {"int", "int", 0}, {"Nix", "", 72}, {"", "", 72}, {"app", "", 72}} {
		got, e := Means(s, c.name)
		checkType(t, "P7.3: Means "+c.name, got, e, c.want, c.e)
	}
	got, e := Root(s, "app")
	checkType(t, "P7.3: Root app", got, e, "App", 0)
	got, e = Root(s, "App")
	checkType(t, "P7.3: Root App", got, e, "", 86)
}

func TestExamplesOfElements(t *testing.T) {
	s := example()
	tcp := at("proto", text("TCP"))
	port := key(at("port", num(80)), tcp)
	for _, c := range []struct {
		of   string
		e    api.Elem
		want string
		f    api.Errno
	}{
		{"Ports", port, "Port", 0}, {"Ports", key(at("port", num(80))), "", 90}, {"Ports", key(at("port", num(80)), at("proto", text("ICMP"))), "", 90}, {"Ports", key(at("port", text("80")), tcp), "", 90}, {"Ports", key(tcp, at("port", num(80))), "", 90},
		{"Tags", item(text("x")), "string", 0}, {"Tags", item(num(5)), "", 90}, {"string", field("a"), "", 90}, {"App", field("tags"), "Tags", 0}, {"App", field("nix"), "", 90},
	} {
		got, e := Below(s, *stands(s, c.of), c.e)
		checkType(t, fmt.Sprint("P7.5: Below ", c.of, " ", c.e), got, e, c.want, c.f)
	}
	for _, c := range []struct {
		kind string
		p    api.Path
		want string
		f    api.Errno
	}{
		{"app", api.Path{field("ports"), port, field("note")}, "string", 0}, {"app", nil, "App", 0}, {"app", api.Path{field("nix")}, "", 90}, {"nix", api.Path{field("nix")}, "", 86}, {"app", api.Path{field("nix"), field("ports")}, "", 90},
	} {
		got, e := At(s, c.kind, c.p)
		checkType(t, fmt.Sprint("P7.5: At ", c.kind, c.p), got, e, c.want, c.f)
	}
}

func TestIs(t *testing.T) {
	loop := list(null)
	loop.List[0] = loop
	values := []api.Value{null, bad, truth(false), truth(true), num(0), num(1), num(math.MinInt), num(math.MaxInt), text(""), text("a"), text("\xff"), text(strings.Repeat("x", api.MaxText)), text(strings.Repeat("x", api.MaxText+1)), list(), object(), list(num(1)), loop,
		{Kind: api.Int, Int: 1, Bool: true}, {Kind: api.Int, Int: 1, Str: "a"}, {Kind: api.Str, Str: "a", Int: 1}, {Kind: api.Bool, Bool: true, List: list(null).List}, {Kind: api.Int, Int: 1, List: []api.Value{}, Map: []api.Member{}}}
	enums := [][]api.Value{nil, {}, {num(1)}, {num(0), num(1)}, {text("a"), text("b")}, {truth(true)}, {bad, null}, {{Kind: api.Int, Int: 1, Bool: true}}, {text("\xff")}, {{Kind: api.Int, Int: 1, List: list(null).List}}, {{Kind: api.Str, Str: "a", Map: object(at("", null)).Map}}, {text("a"), num(1), truth(false)}, {{Kind: api.Str, Str: "a", List: []api.Value{}}}}
	counts := map[bool]int{}
	for kind := -1; kind <= 8; kind++ {
		for _, enum := range enums {
			for i, v := range values {
				x := api.Type{Name: "T", Kind: kind, Enum: enum}
				got := Is(x, v)
				if v.Kind == api.List && got || v.Kind != api.List && got != isOf(x, v) {
					t.Errorf("P7.4: Is(%v, the value %d) = %v", x, i, got)
				}
				counts[got]++
			}
		}
	}
	if counts[true] < 30 || counts[false] < 50 {
		t.Errorf("few of one sort: %v", counts)
	}
	if !Is(api.Type{Kind: api.TypeInt, Name: "no name", Atomic: true, Elem: "x"}, num(5)) {
		t.Error("P7.4: Is asks for more than the kind and the enum")
	}
}

func TestLeaf(t *testing.T) {
	for kind := -1; kind <= 8; kind++ {
		for rel := -1; rel <= 3; rel++ {
			for _, atomic := range []bool{false, true} {
				x := api.Type{Kind: kind, Rel: rel, Atomic: atomic}
				if got := Leaf(x); got != wantLeaf(x) {
					t.Errorf("P7.4: Leaf(%v) = %v", x, got)
				}
			}
		}
	}
}

// Every way to put the parts of one type together, each of them there or not.
func TestCheckOfOneType(t *testing.T) {
	counts := map[api.Errno]int{}
	for kind := -1; kind <= 8; kind++ {
		for rel := -1; rel <= 3; rel++ {
			for parts := range 1 << 5 {
				x := api.Type{Name: "X", Kind: kind, Rel: rel, Atomic: parts&1 > 0}
				if parts&2 > 0 {
					x.Fields = fields("a", "int")
				}
				if parts&4 > 0 {
					x.Elem = "Y"
				}
				if parts&8 > 0 {
					x.Keys = []string{"a"}
				}
				if parts&16 > 0 {
					x.Enum = []api.Value{num(1)}
				}
				for _, y := range []api.Type{{Name: "Y", Kind: api.TypeStruct, Fields: fields("a", "int")}, {Name: "Y", Kind: api.TypeInt}, name("Y", "X"), {Name: "Z", Kind: api.TypeInt}} {
					counts[checkSchema(t, types(x, y))]++
				}
			}
		}
	}
	for _, e := range []api.Errno{0, 70, 72, 73, 74, 75, 78} {
		if counts[e] == 0 {
			t.Errorf("none was %d: %v", e, counts)
		}
	}
}

func TestNames(t *testing.T) {
	long := strings.Repeat("n", 64)
	for _, c := range []struct {
		s           string
		name, field bool
	}{
		{"", false, false}, {"a", true, true}, {"Z", true, true}, {"a-_9", true, true}, {"9a", false, true}, {"-a", false, true}, {"_a", false, true}, {"a.b", false, true}, {"a b", false, true}, {"a/b", false, true}, {"@", false, true}, {"a[", false, true}, {"a`", false, true}, {"a{", false, true}, {"[", false, true}, {"`", false, true}, {"{", false, true}, {"a/", false, true}, {"a:", false, true},
		{"\u00e9", false, true}, {"a\u00e9", false, true}, {"a\x00", false, true}, {"\xff", false, false}, {"a\xff", false, false}, {"\xed\xa0\x80", false, false}, {long, true, true}, {long + "n", false, false}, {long[:62] + "\u00e9", false, true}, {long[:63] + "\u00e9", false, false}, {"bool", true, true}, {"int", true, true}, {"string", true, true}, {"Int", true, true},
	} {
		_, word := words[c.s]
		for i, x := range []struct {
			s  api.Schema
			ok bool
		}{
			{types(api.Type{Name: c.s, Kind: api.TypeInt}), c.name && !word},
			{types(api.Type{Name: "X", Kind: api.TypeStruct, Fields: fields(c.s, "int")}), c.field},
			{api.Schema{Types: types(api.Type{Name: "X", Kind: api.TypeStruct}).Types, Roots: []api.Root{{Kind: c.s, Type: "X"}}}, c.name},
		} {
			want := api.ErrSchemaName
			if x.ok {
				want = api.OK
			}
			if e := checkSchema(t, x.s); e != want {
				t.Errorf("P7.1: the name %q (%d): %d, want %d", c.s, i, e, want)
			}
		}
	}
}

// Each byte as the first and as the second of a name.
func TestBytesOfNames(t *testing.T) {
	for c := range 256 {
		for _, n := range []string{string([]byte{byte(c)}), string([]byte{'a', byte(c)})} {
			checkSchema(t, types(api.Type{Name: n, Kind: api.TypeInt}))
			checkSchema(t, types(api.Type{Name: "X", Kind: api.TypeStruct, Fields: fields(n, "int")}))
		}
	}
}

// many is so many texts that rise.
func many(n int, begin string) []string {
	var l []string
	for i := range n {
		l = append(l, fmt.Sprintf("%s%06d", begin, i))
	}
	return l
}

func TestLimits(t *testing.T) {
	sized := func(types, roots, fields, keys, enum int) api.Schema {
		var s api.Schema
		for _, n := range many(types, "t") {
			s.Types = append(s.Types, api.Type{Name: n, Kind: api.TypeMap, Elem: "int"})
		}
		for _, n := range many(roots, "k") {
			s.Roots = append(s.Roots, api.Root{Kind: n, Type: "t000000"})
		}
		if fields > 0 {
			x := api.Type{Name: "t000001", Kind: api.TypeStruct}
			for _, n := range many(fields, "f") {
				x.Fields = append(x.Fields, api.Field{Name: n, Type: "int"})
			}
			s.Types[1] = x
		}
		if keys > 0 {
			s.Types[2] = api.Type{Name: "t000002", Kind: api.TypeList, Elem: "t000001", Rel: api.Keyed, Keys: many(keys, "f")}
		}
		if enum > 0 {
			x := api.Type{Name: "t000003", Kind: api.TypeInt}
			for i := range enum {
				x.Enum = append(x.Enum, num(i))
			}
			s.Types[3] = x
		}
		return s
	}
	for _, c := range []struct {
		l [5]int
		e api.Errno
	}{
		{[5]int{256, 256, 256, 8, 64}, api.OK}, {[5]int{257, 1, 0, 0, 0}, api.ErrSchemaLimit}, {[5]int{4, 257, 0, 0, 0}, api.ErrSchemaLimit}, {[5]int{4, 1, 257, 0, 0}, api.ErrSchemaLimit}, {[5]int{4, 1, 256, 9, 0}, api.ErrSchemaLimit}, {[5]int{4, 1, 1, 0, 65}, api.ErrSchemaLimit},
	} {
		s := sized(c.l[0], c.l[1], c.l[2], c.l[3], c.l[4])
		if e := checkSchema(t, s); e != c.e {
			t.Errorf("P7.1: sizes %v: %d, want %d", c.l, e, c.e)
		}
		if c.l[0] == 257 || c.l[1] == 257 {
			s.Types[0].Name, s.Roots[0].Kind = "", ""
			if e := Check(s); e != c.e {
				t.Errorf("P7.1: sizes %v and a name: %d, want %d", c.l, e, c.e)
			}
		}
		if e := checkParse(t, read(wantText(sized(c.l[0], c.l[1], c.l[2], c.l[3], c.l[4])))); e != c.e {
			t.Errorf("P7.2: sizes %v as a value: %d, want %d", c.l, e, c.e)
		}
	}
}

// What Check takes may be too large as a value.
func TestPrintTooLarge(t *testing.T) {
	wide := func(sizes ...int) api.Schema {
		var s api.Schema
		for i, n := range many(len(sizes), "t") {
			x := api.Type{Name: n, Kind: api.TypeStruct}
			for _, f := range many(sizes[i], "f") {
				x.Fields = append(x.Fields, api.Field{Name: f, Type: "int"})
			}
			s.Types = append(s.Types, x)
		}
		return s
	}
	// Three values, for each struct two, and one a field: 3 + 253*258 + 2 are 257 less than may be.
	for _, c := range []struct {
		last int
		e    api.Errno
	}{{255, api.OK}, {256, api.ErrNodes}} {
		s := wide(append(slices.Repeat([]int{256}, 253), 0, c.last)...)
		v, e := Print(s)
		if Check(s) != api.OK || e != c.e || e == api.OK && value.Nodes(v) != 65536 || e != api.OK && !same(v, null) {
			t.Errorf("P7.2: Print of many fields, %d in the last: %d, want %d", c.last, e, c.e)
		}
	}
	long := func(n int) api.Schema {
		return types(api.Type{Name: "X", Kind: api.TypeStr, Enum: []api.Value{text("a"), text(strings.Repeat("x", n))}})
	}
	room := api.MaxText - len("kinds"+"types"+"X"+"enum"+"scalar"+"a"+"string")
	if v, e := Print(long(room)); e != api.OK || !same(v.Map[1].Val.Map[0].Val.Map[0].Val.List[1], text(strings.Repeat("x", room))) {
		t.Errorf("P7.2: Print of a long enum: %d", e)
	}
	if v, e := Print(long(room + 1)); e != api.ErrBytes || !same(v, null) || Check(long(room+1)) != api.OK {
		t.Errorf("P7.2: Print of too long an enum: %d", e)
	}
	if e := Check(long(api.MaxText)); e != api.OK {
		t.Errorf("P7.1: an enum's text of as many bytes as may be: %d", e)
	}
	if e := checkSchema(t, long(api.MaxText+1)); e != api.ErrSchemaEnum {
		t.Errorf("P7.1: an enum's text of too many bytes: %d", e)
	}
}

// within is what lies so many levels below a value, in the first place of each list.
func within(v api.Value, levels int) api.Value {
	for range levels {
		v = v.List[0]
	}
	return v
}

func TestParseOfWhatIsNotTaken(t *testing.T) {
	deep := num(1)
	for range 41 {
		deep = list(deep)
	}
	for _, c := range []struct {
		v api.Value
		e api.Errno
	}{
		{bad, api.ErrValue}, {deep, api.ErrDeep}, {deep.List[0], api.ErrSchema}, {list(make([]api.Value, 65536)...), api.ErrNodes}, {text(strings.Repeat("x", api.MaxText+1)), api.ErrBytes},
		{object(at("kinds", object()), at("types", object(at("X", object(at("enum", list(bad)), at("scalar", text("int"))))))), api.ErrValue},
		{object(at("kinds", object()), at("types", object(at("X", object(at("enum", list(within(deep, 5))), at("scalar", text("int"))))))), api.ErrSchemaEnum},
		{object(at("kinds", object()), at("types", object(at("X", object(at("enum", list(within(deep, 4))), at("scalar", text("int"))))))), api.ErrDeep},
		{object(at("types", object()), at("kinds", object())), api.ErrValue},
	} {
		if e := checkParse(t, c.v); e != c.e {
			t.Errorf("P7.2: Parse of a value that is not taken: %d, want %d", e, c.e)
		}
	}
}

// Every set of up to three members of a type, each with something that may stand there, or not.
func TestParseOfOneType(t *testing.T) {
	some := map[string][]api.Value{
		"atomic": {truth(true), truth(false), text("true"), null}, "enum": {list(num(1)), list(), text("a"), list(text("a"), null)}, "keys": {list(text("a")), list(), list(num(1)), text("a")},
		"list": {text("Y"), text("int"), num(1), list()}, "map": {text("int"), text(""), truth(true), object()}, "name": {text("int"), text("Y"), null, object()}, "scalar": {text("int"), text("string"), text("Y"), text(""), num(2)},
		"set": {truth(true), truth(false), num(1)}, "struct": {object(at("a", text("int"))), object(), text("Y"), object(at("a", num(1))), object(at("a", text("int")), at("b", null))}, "kind": {text("int")},
	}
	keys := []string{"atomic", "enum", "keys", "kind", "list", "map", "name", "scalar", "set", "struct"}
	counts := map[api.Errno]int{}
	var try func(from int, l []api.Member)
	try = func(from int, l []api.Member) {
		x := object(at("X", object(l...)), at("Y", read(`{"struct":{"a":"int"}}`)))
		counts[checkParse(t, object(at("kinds", object()), at("types", x)))]++
		if len(l) == 3 {
			return
		}
		for i := from; i < len(keys); i++ {
			for _, v := range some[keys[i]] {
				try(i+1, append(l[:len(l):len(l)], at(keys[i], v)))
			}
		}
	}
	try(0, nil)
	if counts[api.OK] < 15 || counts[api.ErrSchema] < 1000 || counts[api.ErrSchemaKeys] == 0 || counts[api.ErrSchemaRef] == 0 {
		t.Errorf("few of one sort: %v", counts)
	}
}

func TestManyValues(t *testing.T) {
	r, counts := rand.New(rand.NewSource(71)), map[api.Errno]int{}
	for range 6000 {
		s := pickSchema(r)
		v := read(wantText(s))
		counts[checkParse(t, v)]++
		for range 3 {
			v = changed(r, v)
			counts[checkParse(t, v)]++
		}
		if t.Failed() {
			return
		}
	}
	for _, e := range []api.Errno{0, 70, 71, 72, 73, 74, 75, 77, 78} {
		if counts[e] < 20 {
			t.Errorf("few were %d: %v", e, counts)
		}
	}
}

// changed is a value with some part of it taken away, named otherwise, or put in the place of another.
func changed(r *rand.Rand, v api.Value) api.Value {
	if v.Kind == api.Map && len(v.Map) > 0 && r.Intn(6) > 0 {
		m := slices.Clone(v.Map)
		i := r.Intn(len(m))
		switch r.Intn(9) {
		case 0:
			m = slices.Delete(m, i, i+1)
		case 1:
			m[i].Key = pickOf(r, "set", "atomic", "enum", "keys", "list", "map", "name", "scalar", "struct", "A", "1", "int", "a")
		default:
			m[i].Val = changed(r, m[i].Val)
		}
		slices.SortFunc(m, func(a, b api.Member) int { return strings.Compare(a.Key, b.Key) })
		return object(slices.CompactFunc(m, func(a, b api.Member) bool { return a.Key == b.Key })...)
	}
	if v.Kind == api.List && len(v.List) > 0 && r.Intn(3) > 0 {
		l := slices.Clone(v.List)
		l[r.Intn(len(l))] = changed(r, l[r.Intn(len(l))])
		return list(l...)
	}
	return pickOf(r, text("A"), text("B"), text("int"), text("string"), text("x"), text("nix"), truth(true), truth(false), num(7), null, list(), object(), list(text("a")), list(num(1), num(0)))
}

func TestManySchemas(t *testing.T) {
	r, counts := rand.New(rand.NewSource(72)), map[api.Errno]int{}
	for range 8000 {
		s := pickSchema(r)
		counts[checkSchema(t, s)]++
		for range 3 {
			s = spoil(r, s)
			counts[checkSchema(t, s)]++
		}
		if t.Failed() {
			return
		}
	}
	for _, e := range []api.Errno{0, 70, 71, 72, 73, 74, 75, 77, 78} {
		if counts[e] < 20 {
			t.Errorf("few were %d: %v", e, counts)
		}
	}
}
