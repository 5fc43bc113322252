package fields

import (
	"slices"
	"strings"
	"testing"

	"freehold/api"
	"freehold/json"
	"freehold/path"
	"freehold/value"
)

// parsed is a value by its text.
func parsed(t *testing.T, s string) api.Value {
	t.Helper()
	v, _, e := json.Parse([]byte(s), api.DeepRecord)
	if e != api.OK {
		t.Fatalf("%s is no text of a value: %d", s, e)
	}
	return v
}

// ways is paths by their texts.
func ways(t *testing.T, texts ...string) []api.Path {
	t.Helper()
	var l []api.Path
	for _, s := range texts {
		p, _, e := path.Parse(s)
		if e != api.OK {
			t.Fatalf("%s is no path", s)
		}
		l = append(l, p)
	}
	return l
}

func TestThereAndBack(t *testing.T) {
	for _, c := range []struct {
		v     string
		paths []string
	}{
		{`{}`, nil},
		{`{".":{}}`, []string{""}},
		{`{".a":{}}`, []string{".a"}},
		{`{".a":{".":{},".b":{}}}`, []string{".a", ".a.b"}},
		{`{".l":{"[id=1]":{".":{},".x":{}}},".s":{"[=\"q\"]":{}}}`, []string{".l[id=1]", ".l[id=1].x", `.s[="q"]`}},
		{`{".":{},".a":{}}`, []string{"", ".a"}},
		{`{".":{},".a":{".":{},".b":{".":{},".c":{}}}}`, []string{"", ".a", ".a.b", ".a.b.c"}},
		{`{".a":{".b":{".c":{}}}}`, []string{".a.b.c"}},
		{`{".a":{".b":{},".c":{}},".b":{".b":{}}}`, []string{".a.b", ".a.c", ".b.b"}},
		{`{".a":{".a":{".":{},".a":{".a":{}}}}}`, []string{".a.a", ".a.a.a.a"}},
		{`{".\"\"":{},".\".\"":{},".\".a\"":{}}`, []string{`.""`, `."."`, `.".a"`}},
		{`{".\"a b\"":{".\"\\\"\"":{}}}`, []string{`."a b"."\""`}},
		// keys stand by their texts, paths by their elements
		{`{"[=10]":{},"[=2]":{}}`, []string{"[=2]", "[=10]"}},
		{`{"[=-1]":{},"[=-2]":{},"[=\"\"]":{},"[=false]":{},"[=true]":{}}`, []string{"[=false]", "[=true]", "[=-2]", "[=-1]", `[=""]`}},
		{`{".z":{},"[=2]":{},"[a=1]":{}}`, []string{".z", "[a=1]", "[=2]"}},
		{`{".\"\"":{},".\"\u007f\"":{},".Z":{},".a":{}}`, []string{`.""`, ".Z", ".a", ".\"\x7f\""}},
		{`{"[a=1,b=1]":{},"[a=1]":{},"[a=2]":{}}`, []string{"[a=1]", "[a=1,b=1]", "[a=2]"}},
		{`{".\"a b\"":{".x":{}},".a":{".":{},".y":{}},".a-":{},"[=10]":{"[=9]":{},"[=\"x\"]":{}},"[=9]":{".":{},".a":{}}}`, []string{".a", ".a.y", `."a b".x`, ".a-", "[=9]", "[=9].a", "[=10][=9]", `[=10][="x"]`}},
	} {
		l, want := ways(t, c.paths...), parsed(t, c.v)
		if v, e := Encode(l); e != api.OK || !same(v, want) {
			t.Errorf("P11.1: Encode(%q) = %s, %d, want %s", c.paths, tell(v), e, c.v)
		}
		if got, e := Decode(want); e != api.OK || !same(got, l) {
			t.Errorf("P11.2: Decode(%s) = %s, %d, want %q", c.v, show(got...), e, c.paths)
		}
		checkEncode(t, l)
		checkDecode(t, want)
	}
}

func TestNoSet(t *testing.T) {
	for _, s := range []string{
		`null`, `[]`, `true`, `1`, `""`, `"."`, `[{}]`, `[".a"]`, // no map
		`{"a":{}}`, `{"":{}}`, `{"..":{}}`, `{". ":{}}`, `{" .a":{}}`, `{".a ":{}}`, `{"[":{}}`, `{"[]":{}}`, `{"[=]":{}}`, `{"!":{}}`, `{"f:a":{}}`, // no element's text
		`{".\"a\"":{}}`, `{"[=01]":{}}`, `{"[b=1,a=2]":{}}`, `{"[=null]":{}}`, `{"[=-0]":{}}`, `{"[=\"\\u0061\"]":{}}`, `{"[\"a\"=1]":{}}`, `{"[a=1,a=1]":{}}`, `{"[=[]]":{}}`, // not written just so
		`{".a.b":{}}`, `{".a[=1]":{}}`, `{"[=1][=1]":{}}`, `{"[a=1].a":{}}`, // more than one
		`{".a":1}`, `{".a":null}`, `{".a":[]}`, `{".a":""}`, `{".a":{".b":true}}`, `{".a":{},".b":0}`, `{".a":0,".b":{}}`, // what is no map stands below
		`{".":1}`, `{".":null}`, `{".":[]}`, `{".":".a"}`, `{".":[],".a":{}}`, `{".a":{".":[],".b":{}}}`, `{".a":{".":null,".b":{}}}`, `{".":{".a":{}}}`, `{".":{".":{}}}`, `{".a":{".":{".b":{}}}}`, `{".a":{".":{".b":{}},".c":{}}}`, // a dot with something else than the empty map
		`{".a":{".":{}}}`, `{".":{},".a":{".":{}}}`, `{".a":{".b":{".":{}}}}`, `{".a":{".":{},".b":{".":{}}}}`, // a dot where the empty map says that
		`{"!":{},".":{}}`, `{"":{},".":{},".a":{}}`, `{".a":{"":{},".":{}}}`, `{".":{},"/":{}}`, `{".a":{".":{},"a":{}}}`, // wrong keys around a dot
		`{".a":{},".b":{},".c":{},"x":{}}`, `{".a":{".b":{".c":{".d":{"x":{}}}}}}`,
	} {
		if l, e := Decode(parsed(t, s)); e != api.ErrFields || len(l) != 0 {
			t.Errorf("P11.2: Decode(%s) = %s, %d, want ErrFields", s, show(l...), e)
		}
		checkDecode(t, parsed(t, s))
	}
}

func TestNoPaths(t *testing.T) {
	none := api.Path{{Kind: 9}}
	for _, c := range []struct {
		l []api.Path
		e api.Errno
	}{
		{ways(t, ".b", ".a"), api.ErrSet},
		{ways(t, ".a", ".a"), api.ErrSet},
		{ways(t, ".a.b", ".a"), api.ErrSet},
		{ways(t, ".a", ""), api.ErrSet},
		{ways(t, "", ""), api.ErrSet},
		{ways(t, "[=10]", "[=2]"), api.ErrSet}, // by their texts they would rise
		{ways(t, "[=1]", "[a=1]"), api.ErrSet},
		{[]api.Path{none}, api.ErrPath},
		{[]api.Path{{{}}}, api.ErrPath},
		{[]api.Path{{field("\xff")}}, api.ErrPath},
		{[]api.Path{{field("a"), item(api.Value{})}}, api.ErrPath},
		{[]api.Path{slices.Repeat(steps("a"), 33)}, api.ErrPath},
		{[]api.Path{steps("a"), none, steps("a")}, api.ErrPath},
		{[]api.Path{steps("b"), steps("a"), none}, api.ErrSet},
	} {
		if v, e := Encode(c.l); e != c.e || !same(v, api.Value{}) {
			t.Errorf("P11.1: Encode(%s) = %s, %d, want %d", show(c.l...), tell(v), e, c.e)
		}
		checkEncode(t, c.l)
	}
}

// under is a value so many levels down along a key.
func under(n int, key string, v api.Value) api.Value {
	for range n {
		v = api.Value{Kind: api.Map, Map: []api.Member{at(key, v)}}
	}
	return v
}

func TestDeep(t *testing.T) {
	empty := api.Value{Kind: api.Map}
	long := slices.Repeat(steps("a"), 32)
	v, e := Encode([]api.Path{long})
	if e != api.OK || !same(v, under(32, ".a", empty)) {
		t.Errorf("P11.1: 32 elements: %s, %d", tell(v), e)
	}
	if l, e := Decode(v); e != api.OK || !same(l, []api.Path{long}) {
		t.Errorf("P11.2: 32 elements: %s, %d", show(l...), e)
	}
	var every []api.Path // and each one above it
	for n := range 33 {
		every = append(every, long[:n])
	}
	v, e = checkEncode(t, every)
	if l, f := checkDecode(t, v); e != api.OK || f != api.OK || !same(l, every) {
		t.Errorf("P11.3: all beginnings of 32 elements: %s, %d, %d", show(l...), e, f)
	}
	for _, c := range []struct {
		v api.Value
		e api.Errno
	}{
		{under(33, ".a", empty), api.ErrDeep},
		{under(33, "x", empty), api.ErrDeep},
		{under(33, ".a", api.Value{Kind: 9}), api.ErrDeep},
		{under(32, ".a", api.Value{Kind: 9}), api.ErrValue},
		{under(32, ".a", api.Value{}), api.ErrFields},
		{under(31, ".a", under(1, ".", empty)), api.ErrFields},
		{under(32, ".a", under(1, ".", empty)), api.ErrDeep},
		{under(31, ".a", api.Value{Kind: api.Map, Map: []api.Member{at(".", empty), at(".b", empty)}}), api.OK},
	} {
		if l, e := checkDecode(t, c.v); e != c.e || len(l) != 0 && e != api.OK {
			t.Errorf("P11.2: Decode(%s) = %s, %d, want %d", tell(c.v), show(l...), e, c.e)
		}
	}
}

// What is no good value is told as such, whatever else is wrong.
func TestNoValue(t *testing.T) {
	empty := api.Value{Kind: api.Map}
	loop := []api.Member{at(".a", api.Value{})}
	loop[0].Val = api.Value{Kind: api.Map, Map: loop}
	for _, c := range []struct {
		v api.Value
		e api.Errno
	}{
		{api.Value{Kind: 9}, api.ErrValue},
		{api.Value{Kind: -1}, api.ErrValue},
		{api.Value{Kind: api.Map, Int: 1}, api.ErrValue},
		{api.Value{Kind: api.Map, List: make([]api.Value, 1)}, api.ErrValue},
		{api.Value{Kind: api.Map, Map: []api.Member{at(".b", empty), at(".a", empty)}}, api.ErrValue},
		{api.Value{Kind: api.Map, Map: []api.Member{at(".a", empty), at(".a", empty)}}, api.ErrValue},
		{api.Value{Kind: api.Map, Map: []api.Member{at(".\xff", empty)}}, api.ErrValue},
		{api.Value{Kind: api.Map, Map: []api.Member{at("x", empty), at("y", api.Value{Kind: 7})}}, api.ErrValue},
		{api.Value{Kind: api.List, List: []api.Value{{Kind: api.Str, Str: "\xff"}}}, api.ErrValue},
		{api.Value{Kind: api.Map, Map: loop}, api.ErrDeep},
		{api.Value{Kind: api.List, List: make([]api.Value, 65535)}, api.ErrFields},
		{api.Value{Kind: api.List, List: make([]api.Value, 65536)}, api.ErrNodes},
		{text(strings.Repeat("x", 1048576)), api.ErrFields},
		{text(strings.Repeat("x", 1048577)), api.ErrBytes},
	} {
		if l, e := Decode(c.v); e != c.e || len(l) != 0 {
			t.Errorf("P11.2: Decode(%.80s) = %s, %d, want %d", tell(c.v), show(l...), e, c.e)
		}
	}
}

// members is so many paths of one element, rising.
func members(n int) []api.Path {
	var l []api.Path
	for i := range n {
		l = append(l, api.Path{item(num(i))})
	}
	return l
}

// A set has so many values as its limits let it have, and not one more.
func TestManyValues(t *testing.T) {
	twin := ways(t, ".a", ".a.b") // with the root's value four
	for _, c := range []struct {
		l []api.Path
		e api.Errno
	}{
		{members(65535), api.OK},
		{members(65536), api.ErrNodes},
		{slices.Concat(twin, members(65532)), api.OK},
		{slices.Concat(twin, members(65533)), api.ErrNodes},
		{slices.Concat([]api.Path{nil}, members(65534)), api.OK},
		{slices.Concat([]api.Path{nil}, members(65535)), api.ErrNodes},
		{members(300000), api.ErrBytes}, // their keys stand in one map, ahead of the values
	} {
		v, e := Encode(c.l)
		if e != c.e || e != api.OK && !same(v, api.Value{}) {
			t.Errorf("P11.1: %d paths: %d, want %d", len(c.l), e, c.e)
		}
		if e != api.OK {
			continue
		}
		if n := value.Nodes(v); n != 65536 {
			t.Errorf("P11.3: %d paths have %d values", len(c.l), n)
		}
		if l, e := Decode(v); e != api.OK || !same(l, c.l) {
			t.Errorf("P11.3: %d paths, there and back: %d paths, %d", len(c.l), len(l), e)
		}
	}
}

// The bytes of keys are those of the texts, quotes and escapes too; what a path has in common with another one counts once.
func TestManyBytes(t *testing.T) {
	name := func(n int) string { return strings.Repeat("x", n) }
	const all = 1048576
	for _, c := range []struct {
		l []api.Path
		e api.Errno
	}{
		{[]api.Path{steps(name(all - 1))}, api.OK},
		{[]api.Path{steps(name(all))}, api.ErrBytes},
		{[]api.Path{steps(" " + name(all-4))}, api.OK},
		{[]api.Path{steps(" " + name(all-3))}, api.ErrBytes},
		{[]api.Path{steps(strings.Repeat("\n", (all-3)/2))}, api.OK},
		{[]api.Path{steps(strings.Repeat("\n", (all-3)/2) + "x")}, api.OK},
		{[]api.Path{steps(strings.Repeat("\n", (all-3)/2+1))}, api.ErrBytes},
		{[]api.Path{{item(text(name(all - 5)))}}, api.OK},
		{[]api.Path{{item(text(name(all - 4)))}}, api.ErrBytes},
		{[]api.Path{{item(text(name(all)))}}, api.ErrBytes},
		{[]api.Path{{item(text(name(all + 1)))}}, api.ErrPath},
		{[]api.Path{steps("a", name(all-3))}, api.OK},
		{[]api.Path{steps("a", name(all-2))}, api.ErrBytes},
		{[]api.Path{steps(name(all/2), "a"), steps(name(all/2), "b"), steps(name(all/2), "c")}, api.OK},
		{[]api.Path{steps(name(all / 2)), steps(name(all/2), "a"), steps(name(all/2) + "x")}, api.ErrBytes},
		{[]api.Path{nil, steps(name(all - 2))}, api.OK},
		{[]api.Path{nil, steps(name(all - 1))}, api.ErrBytes},
	} {
		v, e := checkEncode(t, c.l)
		if e != c.e {
			t.Errorf("P11.1: Encode(%.80s) = %d, want %d", show(c.l...), e, c.e)
		}
		if e != api.OK {
			continue
		}
		if l, e := Decode(v); e != api.OK || !same(l, c.l) {
			t.Errorf("P11.3: Encode(%.80s), and back: %d", show(c.l...), e)
		}
	}
}

// Which of two limits is passed first is told by the value, whose keys stand by their texts.
func TestFirstLimit(t *testing.T) {
	long := field(strings.Repeat("y", 1048576))
	many := func(first api.Elem) []api.Path {
		var l []api.Path
		for _, p := range members(66000) {
			l = append(l, append(api.Path{first}, p...))
		}
		return l
	}
	for _, c := range []struct {
		l []api.Path
		e api.Errno
	}{
		{slices.Concat(many(field("a")), []api.Path{{field("b"), long}}), api.ErrNodes},
		{slices.Concat([]api.Path{{field("a"), long}}, many(field("b"))), api.ErrBytes},
		{slices.Concat([]api.Path{{item(num(2)), long}}, many(item(num(10)))), api.ErrNodes},
		{slices.Concat(many(item(num(2))), []api.Path{{item(num(10)), long}}), api.ErrBytes},
		{slices.Concat(many(field("a")), []api.Path{{long}}), api.ErrBytes},
	} {
		if v, e := Encode(c.l); e != c.e || !same(v, api.Value{}) {
			t.Errorf("P11.1: Encode(%s) = %d, want %d", show(c.l...), e, c.e)
		}
	}
}
