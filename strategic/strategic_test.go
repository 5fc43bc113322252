package strategic_test

import (
	"fmt"
	"slices"
	"strings"
	"testing"

	"freehold/api"
	"freehold/strategic"
	"freehold/validate"
	"freehold/value"
)

// example is chapter 12's types, and some more: types within each other, other names, and fields that no patch can reach.
func example() api.Schema {
	return api.Schema{
		Types: []api.Type{
			{Name: "At", Kind: api.TypeStruct, Atomic: true, Fields: fields("$patch", "string", "l", "L", "s", "S")},
			{Name: "E", Kind: api.TypeStruct, Fields: fields("id", "int", "x", "string")},
			{Name: "L", Kind: api.TypeList, Rel: api.Keyed, Keys: []string{"id"}, Elem: "E"},
			{Name: "M", Kind: api.TypeMap, Elem: "string"},
			{Name: "Ma", Kind: api.TypeMap, Atomic: true, Elem: "int"},
			{Name: "Ms", Kind: api.TypeMap, Elem: "OtherS"},
			{Name: "N", Kind: api.TypeStruct, Fields: fields("at", "At", "b", "bool", "id", "int", "m", "M", "ma", "Ma", "ms", "Ms", "n", "Ns", "s", "S", "t", "T")},
			{Name: "Ns", Kind: api.TypeList, Rel: api.Keyed, Keys: []string{"b", "id"}, Elem: "N"},
			{Name: "Odd", Kind: api.TypeStruct, Fields: fields("$delete/s", "S", "$patch", "string", "$x", "int", "id", "int", "s", "S")},
			{Name: "OddD", Kind: api.TypeList, Rel: api.Keyed, Keys: []string{"$delete/s"}, Elem: "OddE"},
			{Name: "OddE", Kind: api.TypeStruct, Fields: fields("$delete/s", "int", "$patch", "string", "s", "S")},
			{Name: "OddL", Kind: api.TypeList, Rel: api.Keyed, Keys: []string{"id"}, Elem: "Odd"},
			{Name: "OddP", Kind: api.TypeList, Rel: api.Keyed, Keys: []string{"$patch", "id"}, Elem: "Odd"},
			{Name: "OddT", Kind: api.TypeStruct, Fields: fields("d", "OddD", "l", "OddL", "o", "Odd", "p", "OddP")},
			{Name: "Other", Kind: api.TypeName, Elem: "T"},
			{Name: "OtherS", Kind: api.TypeName, Elem: "S"},
			{Name: "S", Kind: api.TypeList, Rel: api.Set, Elem: "string"},
			{Name: "T", Kind: api.TypeStruct, Fields: fields("a", "int", "l", "L", "m", "M", "s", "S", "w", "W")},
			{Name: "Tree", Kind: api.TypeMap, Elem: "Tree"},
			{Name: "W", Kind: api.TypeList, Elem: "int"},
		},
		Roots: []api.Root{{Kind: "t", Type: "T"}},
	}
}

// broken is the example with a type that stands there twice.
func broken() api.Schema {
	s := example()
	s.Types = append(s.Types, s.Types[len(s.Types)-1])
	return s
}

// tree is a value of the type Tree, so deep.
func tree(depth int) api.Value {
	v := object()
	for range depth {
		v = object(at("k", v))
	}
	return v
}

// numbered is strings that rise.
func numbered(from, to int) []api.Value {
	var l []api.Value
	for i := from; i < to; i++ {
		l = append(l, text(fmt.Sprintf("%06d", i)))
	}
	return l
}

const start = `{"a":1,"l":[{"id":2,"x":"q"}],"s":["p","r"]}`

// The chapter's examples.
func TestExamples(t *testing.T) {
	seen := map[string]int{}
	for _, c := range [][2]string{
		{`{"a":null,"m":{"k":"v"}}`, `{"l":[{"id":2,"x":"q"}],"m":{"k":"v"},"s":["p","r"]}`},
		{`{"s":["z","p"]}`, `{"a":1,"l":[{"id":2,"x":"q"}],"s":["p","r","z"]}`},
		{`{"$delete/s":["p","x"]}`, `{"a":1,"l":[{"id":2,"x":"q"}],"s":["r"]}`},
		{`{"s":[{"$patch":"replace"},"z"]}`, `{"a":1,"l":[{"id":2,"x":"q"}],"s":["z"]}`},
		{`{"w":[1]}`, `{"a":1,"l":[{"id":2,"x":"q"}],"s":["p","r"],"w":[1]}`},
		{`{"l":[{"id":2,"$patch":"delete"}]}`, `{"a":1,"l":[],"s":["p","r"]}`},
		{`{"l":[{"id":3,"x":"n"}]}`, `{"a":1,"l":[{"id":2,"x":"q"},{"id":3,"x":"n"}],"s":["p","r"]}`},
		{`{"l":[{"$patch":"replace"},{"id":3}]}`, `{"a":1,"l":[{"id":3}],"s":["p","r"]}`},
		{`{"l":[{"id":2,"x":null}]}`, `{"a":1,"l":[{"id":2}],"s":["p","r"]}`},
		{`{"l":[{"x":"n"}]}`, `{"a":1,"l":[{"x":"n"}],"s":["p","r"]}`},
		{`{"$patch":"replace","a":5}`, `{"a":5}`},
		{`{"$patch":"delete"}`, `null`},
		{`{"m":{"$patch":"delete"}}`, start},
		{`{"w":[{"$patch":"merge"}]}`, `{"a":1,"l":[{"id":2,"x":"q"}],"s":["p","r"],"w":[{"$patch":"merge"}]}`},
	} {
		if got, e := checkLaws(t, example(), "T", read(start), read(c[0]), seen); e != api.OK || show(got) != c[1] {
			t.Errorf("P18.2: %s: %s, %d, want %s", c[0], show(got), e, c[1])
		}
	}
	for _, p := range []string{`{"$patch":"wipe"}`, `{"$patch":"delete","a":1}`, `{"$delete/a":[1]}`, `{"$delete/s":"p"}`, `{"s":[{"$patch":"merge"}]}`, `{"l":[{"$patch":"replace"},{"$patch":"replace"}]}`, `{"l":[{"id":2,"$patch":"delete","x":"q"}]}`} {
		if got, e := checkApply(t, example(), "T", read(start), read(p)); e != api.ErrDirective || !same(got, null) {
			t.Errorf("P18.1: %s: %s, %d", p, show(got), e)
		}
	}
	if p, e := checkWay(t, example(), "T", read(start), read(`{"l":[{"id":2},{"id":5}],"s":["r","t"]}`)); e != api.OK || show(p) != `{"$delete/s":["p"],"a":null,"l":[{"id":2,"x":null},{"id":5}],"s":["t"]}` {
		t.Errorf("P18.3: %s, %d", show(p), e)
	}
}

// patching is a value of the example, a patch, and what comes out.
type patching struct{ typ, v, p, want string }

func (c patching) check(t *testing.T) {
	t.Helper()
	got, e := checkLaws(t, example(), c.typ, read(c.v), read(c.p), map[string]int{})
	if e != api.OK || show(got) != c.want {
		t.Errorf("P18.2: %s by %s for %s: %s, %d, want %s", c.v, c.p, c.typ, show(got), e, c.want)
	}
}

// Of leaves, and where a patch is not of the shape: it stands as it is.
func TestAsItStands(t *testing.T) {
	for _, c := range []patching{
		{"int", `5`, `null`, `null`},
		{"int", `5`, `{"$patch":"delete"}`, `{"$patch":"delete"}`},
		{"W", `[1]`, `[{"$patch":"replace"},2,2]`, `[{"$patch":"replace"},2,2]`},
		{"At", `{"$patch":"x"}`, `{"$patch":"y","s":[{"$patch":"z"}]}`, `{"$patch":"y","s":[{"$patch":"z"}]}`},
		{"Ma", `{"k":1}`, `{"$delete/k":5,"j":null}`, `{"$delete/k":5,"j":null}`},
		{"N", `{"at":{"s":["p"]},"ma":{"k":1}}`, `{"at":{"l":[{"$patch":"wipe"}]},"ma":{"$patch":"replace"}}`, `{"at":{"l":[{"$patch":"wipe"}]},"ma":{"$patch":"replace"}}`},
		{"T", start, `null`, `null`},
		{"T", start, `5`, `5`},
		{"T", start, `[{"$patch":"wipe"}]`, `[{"$patch":"wipe"}]`},
		{"M", `{"k":"v"}`, `"v"`, `"v"`},
		{"S", `["p"]`, `{"$patch":"wipe"}`, `{"$patch":"wipe"}`},
		{"S", `["p"]`, `null`, `null`},
		{"L", `[{"id":1}]`, `{"$patch":"wipe"}`, `{"$patch":"wipe"}`},
		{"L", `[{"id":1}]`, `[{"id":2},5]`, `[{"id":2},5]`},
		{"L", `[{"id":1}]`, `[{"$patch":"wipe"},{"x":""}]`, `[{"$patch":"wipe"},{"x":""}]`},
		{"L", `[{"id":1}]`, `[{"$patch":"replace"},{"$patch":"replace"},null]`, `[{"$patch":"replace"},{"$patch":"replace"},null]`},
		{"L", `[{"id":1}]`, `[{"id":[1]}]`, `[{"id":[1]}]`},
		{"L", `[{"id":1}]`, `[{"id":null,"x":""}]`, `[{"id":null,"x":""}]`},
		{"L", `[{"id":1}]`, `[{"id":1,"x":{"$patch":"wipe"}}]`, `[{"id":1,"x":{"$patch":"wipe"}}]`},
		{"L", `[{"id":1}]`, `[{"id":{"$patch":"wipe"}}]`, `[{"id":{"$patch":"wipe"}}]`},
		{"Ns", `[]`, `[{"b":true},{"b":true,"id":1}]`, `[{"b":true},{"b":true,"id":1}]`}, // not all key fields
		{"T", start, `{"l":{"id":2},"m":[{"$patch":"wipe"}],"s":"p"}`, `{"a":1,"l":{"id":2},"m":[{"$patch":"wipe"}],"s":"p"}`},
		// fields that the struct does not have
		{"T", `{"a":1}`, `{"b":{"$patch":"wipe"},"c":[{"$patch":"wipe"}],"d":null}`, `{"a":1,"b":{"$patch":"wipe"},"c":[{"$patch":"wipe"}]}`},
		{"T", `{}`, `{"$":1,"$delete":2,"$patches":3}`, `{"$":1,"$delete":2,"$patches":3}`},
	} {
		c.check(t)
	}
}

func TestMembers(t *testing.T) {
	for _, c := range []patching{
		{"T", start, `{}`, start},
		{"T", `{}`, `{"a":null,"s":null}`, `{}`},
		{"T", `{"a":1,"w":[]}`, `{"a":2,"m":{},"w":null}`, `{"a":2,"m":{}}`},
		{"Other", `{"a":1,"m":{"j":"","k":"v"}}`, `{"m":{"i":"","k":null}}`, `{"a":1,"m":{"i":"","j":""}}`},
		{"M", `{"b":"","d":""}`, `{"a":"","b":"1","c":"","d":null,"e":""}`, `{"a":"","b":"1","c":"","e":""}`},
		{"M", `{"k":"v"}`, `{"k":null,"z":null}`, `{}`},
		{"M", `{"k":"v"}`, `{"$patch":"merge","":"","$delete":"x"}`, `{"":"","$delete":"x","k":"v"}`},
		{"M", `{"$delete/k":"v","$patch":"merge","k":"v"}`, `{"$patch":"merge","k":"w"}`, `{"$delete/k":"v","$patch":"merge","k":"w"}`}, // out of reach: it stays
		{"M", `{"$delete/k":"v","$patch":"merge","k":"v"}`, `{"$patch":"replace","k":"w"}`, `{"k":"w"}`},
		{"M", `{"k":"v"}`, `{"$patch":"replace"}`, `{}`},
		{"M", `{"k":"v"}`, `{"$patch":"delete"}`, `null`},
		{"N", `{"t":{"a":1,"w":[]}}`, `{"t":{"a":2}}`, `{"t":{"a":2,"w":[]}}`},
		{"N", `{"t":{"a":1,"w":[]}}`, `{"t":{"$patch":"merge","a":2}}`, `{"t":{"a":2,"w":[]}}`},
		{"N", `{"t":{"a":1,"w":[]}}`, `{"t":{"$patch":"replace","a":2}}`, `{"t":{"a":2}}`},
		{"N", `{"b":true,"t":{"a":1,"w":[]}}`, `{"t":{"$patch":"delete"}}`, `{"b":true}`},
		{"N", `{"b":true}`, `{"t":{"$patch":"delete"}}`, `{"b":true}`},
		{"N", `{"b":true}`, `{"t":{"$patch":"replace"}}`, `{"b":true,"t":{}}`},
		{"N", `{"t":{"m":{"k":"v"}}}`, `{"$patch":"replace","t":{"m":{"$patch":"delete"},"s":["p","p"]}}`, `{"t":{"s":["p"]}}`}, // what lies within is read
		{"N", `{"t":{"m":{"k":"v"}}}`, `{"t":{"$patch":"replace","l":[{"id":1,"x":null},{"$patch":"delete","id":2}],"m":{"j":"","k":null}}}`, `{"t":{"l":[{"id":1}],"m":{"j":""}}}`},
		{"Tree", `{}`, `{"a":{"b":{"c":null,"d":{"e":{}}}},"f":{"$patch":"merge"}}`, `{"a":{"b":{"d":{"e":{}}}},"f":{}}`},
	} {
		c.check(t)
	}
}

func TestSets(t *testing.T) {
	for _, c := range []patching{
		{"S", `["b","d"]`, `[]`, `["b","d"]`},
		{"S", `["b","d"]`, `["d","c","a","c","b"]`, `["b","d","c","a"]`},
		{"S", `[]`, `["b","a","b"]`, `["b","a"]`},
		{"S", `["b"]`, `[{"$patch":"replace"}]`, `[]`},
		{"S", `["b"]`, `["c","a",{"$patch":"replace"},"c"]`, `["c","a","c"]`}, // as they stand
		{"S", `["1","true"]`, `[1,"1",true,"true",1,null,[],{},[],{"x":1},{"x":1},{"x":2},{"y":1},null,-1,[1],[[]],false]`, `["1","true",1,true,null,[],{},{"x":1},{"x":2},{"y":1},-1,[1],[[]],false]`},
		{"S", `["a"]`, `[["a","b"],["ab"],["a","b"],{"a":"b"},{"ab":""},["a",["b"]],[["a"],"b"],"2;1"]`, `["a",["a","b"],["ab"],{"a":"b"},{"ab":""},["a",["b"]],[["a"],"b"],"2;1"]`},
		{"T", `{}`, `{"s":["p"]}`, `{"s":["p"]}`},
		{"T", `{}`, `{"s":[]}`, `{"s":[]}`},
		{"T", `{"s":["p"]}`, `{"s":null}`, `{}`},
		// what goes
		{"T", `{"s":["p","q","r"]}`, `{"$delete/s":["r","p","x",1,true,"r"]}`, `{"s":["q"]}`},
		{"T", `{"s":["p","q"]}`, `{"$delete/s":[]}`, `{"s":["p","q"]}`},
		{"T", `{"s":["p"]}`, `{"$delete/s":["p"]}`, `{"s":[]}`},
		{"T", `{}`, `{"$delete/s":["p"]}`, `{}`},
		{"T", `{"s":["p"]}`, `{"$delete/s":["p"],"s":null}`, `{}`},
		{"T", `{"s":["p"]}`, `{"$delete/s":["p"],"s":5}`, `{"s":5}`},
		{"T", `{"s":["p"]}`, `{"$delete/s":["p","q"],"s":["q","r"]}`, `{"s":["r"]}`}, // it comes last
		{"T", `{"s":["p"]}`, `{"$delete/s":["q",1],"s":[{"$patch":"replace"},"q","r","q",1,[1],["q"],"1"]}`, `{"s":["r",[1],["q"],"1"]}`},
		{"T", `{"s":["p"]}`, `{"$delete/s":["p"],"$patch":"merge"}`, `{"s":[]}`},
		{"T", `{"s":["p"]}`, `{"$delete/s":["q"],"$patch":"replace","s":["q","q"]}`, `{"s":["q"]}`}, // it goes with the directives
		{"Ms", `{"":["a","b"],"k":["a","b"]}`, `{"$delete/":["a"],"$delete/k":["b"],"$delete/z":["a"]}`, `{"":["b"],"k":["a"]}`},
		{"Ms", `{"$delete":["a"],"$patc":["a"],"a/b":["a"]}`, `{"$delete/$delete":["a"],"$delete/$patc":["a"],"$delete/a/b":["a"]}`, `{"$delete":[],"$patc":[],"a/b":[]}`},
		{"Ms", `{"!":["a"],"k":["a"]}`, `{"!":["b"],"$delete/!":["a"],"$delete/k":["a"],"k":["c"]}`, `{"!":["b"],"k":["c"]}`},
		{"N", `{"ms":{"k":["a"]},"s":["a"]}`, `{"$delete/s":["a"],"ms":{"$delete/k":["a"],"k":["b"]}}`, `{"ms":{"k":["b"]},"s":[]}`},
	} {
		c.check(t)
	}
}

func TestElements(t *testing.T) {
	const two = `[{"id":1,"x":"p"},{"id":2,"x":"q"}]`
	for _, c := range []patching{
		{"L", two, `[]`, two},
		{"L", `[]`, `[]`, `[]`},
		{"T", `{}`, `{"l":[]}`, `{"l":[]}`},
		{"L", two, `[{"id":2,"x":"r"},{"id":0},{"id":1,"x":null}]`, `[{"id":1},{"id":2,"x":"r"},{"id":0}]`},
		{"L", two, `[{"$patch":"delete","id":1}]`, `[{"id":2,"x":"q"}]`},
		{"L", two, `[{"$patch":"delete","id":3}]`, two},
		{"L", two, `[{"$patch":"delete","id":1},{"id":1}]`, `[{"id":2,"x":"q"},{"id":1}]`}, // behind the others
		{"L", two, `[{"id":3},{"$patch":"delete","id":3},{"id":3,"x":""}]`, `[{"id":1,"x":"p"},{"id":2,"x":"q"},{"id":3,"x":""}]`},
		{"L", two, `[{"$patch":"replace","id":1},{"$patch":"merge","id":2,"x":"r"}]`, `[{"id":1},{"id":2,"x":"r"}]`},
		{"L", two, `[{"$patch":"replace","id":3,"x":null}]`, `[{"id":1,"x":"p"},{"id":2,"x":"q"},{"id":3}]`},
		{"L", two, `[{"id":"1"},{"id":true},{"id":"1","x":""}]`, `[{"id":1,"x":"p"},{"id":2,"x":"q"},{"id":"1","x":""},{"id":true}]`}, // scalars, of whatever type
		{"L", two, `[{"id":1,"y":5}]`, `[{"id":1,"x":"p","y":5},{"id":2,"x":"q"}]`},
		// with the directive none is held against another
		{"L", two, `[{"$patch":"replace"}]`, `[]`},
		{"L", two, `[{"id":2},{"$patch":"replace"},{"id":2,"x":null},{"$patch":"delete","id":1},{"$patch":"replace","id":1,"x":"r"}]`, `[{"id":2},{"id":2},{"id":1,"x":"r"}]`},
		// two key fields
		{"Ns", `[{"b":false,"id":1,"m":{"k":"v"}},{"b":true,"id":1}]`, `[{"b":true,"id":1,"s":["p"]},{"b":true,"id":2},{"b":false,"id":1,"m":{"j":""}},{"$patch":"delete","b":false,"id":2}]`, `[{"b":false,"id":1,"m":{"j":"","k":"v"}},{"b":true,"id":1,"s":["p"]},{"b":true,"id":2}]`},
		{"Ns", `[{"b":true,"id":1}]`, `[{"$patch":"delete","b":true,"id":1}]`, `[]`},
		{"Ns", `[]`, `[{"b":1,"id":212},{"b":12,"id":12},{"b":"1;","id":""},{"b":"1","id":";"}]`, `[{"b":1,"id":212},{"b":12,"id":12},{"b":"1;","id":""},{"b":"1","id":";"}]`}, // none is another
		// elements within elements
		{"N", `{"n":[{"b":true,"id":1,"n":[{"b":true,"id":2,"s":["p"]}]}]}`, `{"n":[{"b":true,"id":1,"n":[{"b":true,"id":2,"$delete/s":["p"]},{"b":true,"id":3}]}]}`, `{"n":[{"b":true,"id":1,"n":[{"b":true,"id":2,"s":[]},{"b":true,"id":3}]}]}`},
		{"N", `{"n":[{"b":true,"id":1,"n":[{"b":true,"id":2,"s":["p"]}]}]}`, `{"n":[{"b":true,"id":1,"n":[{"$patch":"replace"},{"b":true,"id":2}]}]}`, `{"n":[{"b":true,"id":1,"n":[{"b":true,"id":2}]}]}`},
	} {
		c.check(t)
	}
}

// A patch comes to one element over and over, and finds there what it left.
func TestOverAndOver(t *testing.T) {
	one := func(l ...string) string {
		for i, x := range l {
			l[i] = `{"b":true,"id":1,` + x + `}`
		}
		return "[" + strings.Join(l, ",") + "]"
	}
	const v = `[{"b":true,"id":1,"m":{"k":"v"},"ms":{"k":["p"]},"s":["p","q"],"t":{"a":1}}]`
	const bare = `[{"b":true,"id":1}]`
	for _, c := range []patching{
		{"Ns", v, one(`"m":{"j":""}`, `"m":{"i":"","k":null}`, `"m":{"j":"x","k":"w"}`, `"ms":null,"s":null,"t":null`), one(`"m":{"i":"","j":"x","k":"w"}`)},
		{"Ns", v, one(`"m":null,"ms":null,"t":null`, `"m":{"j":""}`, `"s":["r"]`, `"$delete/s":["p","r"]`, `"s":["r","p","q"]`), one(`"m":{"j":""},"s":["q","r","p"]`)},
		{"Ns", v, one(`"$patch":"replace","s":["r"]`, `"s":["p"]`), one(`"s":["r","p"]`)},
		{"Ns", v, one(`"$patch":"replace","s":["r"]`, `"$patch":"replace","m":{}`), one(`"m":{}`)},
		{"Ns", v, `[{"b":true,"id":1,"a":1},{"$patch":"delete","b":true,"id":1},{"b":true,"id":1,"t":{"a":2}}]`, one(`"t":{"a":2}`)},
		{"Ns", bare, one(`"ms":{"k":["p"]}`, `"ms":{"$delete/k":["p"],"k":["q"]}`, `"ms":{"k":["p"]}`), one(`"ms":{"k":["q","p"]}`)},
		{"Ns", bare, one(`"ms":{"k":["p"]}`, `"ms":{"$patch":"delete"}`), bare},
		{"Ns", bare, one(`"ms":{"k":["p"]}`, `"ms":{"$patch":"delete"}`, `"ms":{"k":["q"]}`), one(`"ms":{"k":["q"]}`)},
		// what is no map, or no list, counts as none
		{"Ns", v, one(`"m":5,"ms":null,"s":5,"t":[{"a":1}]`, `"m":{"j":""},"s":["r"],"t":{"a":2}`), one(`"m":{"j":""},"s":["r"],"t":{"a":2}`)},
		{"Ns", bare, one(`"m":{"j":""}`, `"m":[]`), one(`"m":[]`)},
		{"Ns", bare, one(`"n":5`, `"n":[{"b":true,"id":2}]`), one(`"n":[{"b":true,"id":2}]`)},
		{"Ns", bare, one(`"s":5`, `"$delete/s":["p"]`), one(`"s":5`)},
		{"Ns", bare, one(`"s":["p"]`, `"s":{"p":1}`, `"$delete/s":["p"]`), one(`"s":{"p":1}`)},
		{"Ns", bare, one(`"y":{"a":1}`, `"y":{"b":1},"z":1`, `"z":null`), one(`"y":{"b":1}`)}, // no field: as it stands
		// items that stand twice
		{"Ns", bare, one(`"s":[{"$patch":"replace"},"p","p","q"]`, `"s":["p","r"]`), one(`"s":["p","p","q","r"]`)},
		{"Ns", bare, one(`"s":[{"$patch":"replace"},"p","p","q"]`, `"$delete/s":["p"]`, `"s":["p"]`), one(`"s":["q","p"]`)},
		// elements that stand twice: the first one, as long as there is one
		{"Ns", bare, one(`"n":[{"$patch":"replace"},{"b":true,"id":2,"s":["p"]},{"b":true,"id":2},{"b":true,"id":3}]`, `"n":[{"b":true,"id":2,"m":{"k":""}}]`), one(`"n":[{"b":true,"id":2,"m":{"k":""},"s":["p"]},{"b":true,"id":2},{"b":true,"id":3}]`)},
		{"Ns", bare, one(`"n":[{"$patch":"replace"},{"b":true,"id":2,"s":["p"]},{"b":true,"id":2},{"b":true,"id":3}]`, `"n":[{"$patch":"delete","b":true,"id":2},{"b":true,"id":2,"m":{"k":""}}]`), one(`"n":[{"b":true,"id":2,"m":{"k":""}},{"b":true,"id":3}]`)},
		{"Ns", bare, one(`"n":[{"$patch":"replace"},{"b":true,"id":2,"s":["p"]},{"b":true,"id":2}]`, `"n":[{"$patch":"delete","b":true,"id":2},{"$patch":"delete","b":true,"id":2},{"$patch":"delete","b":true,"id":2}]`), one(`"n":[]`)},
		// elements that are none
		{"Ns", bare, one(`"n":[5,{"b":true},{"b":[],"id":1},null]`, `"n":[{"b":true,"id":1},{"b":true,"id":1,"s":[]}]`), one(`"n":[5,{"b":true},{"b":[],"id":1},null,{"b":true,"id":1,"s":[]}]`)},
	} {
		c.check(t)
	}
}

// Fields and key fields that no patch can reach.
func TestOutOfReach(t *testing.T) {
	for _, c := range []patching{
		{"Odd", `{"$delete/s":["p"],"$patch":"x","s":["p"]}`, `{"$delete/s":["p"],"$patch":"merge","$x":1}`, `{"$delete/s":["p"],"$patch":"x","$x":1,"s":[]}`},
		{"Odd", `{"$delete/s":["p"],"$patch":"x","s":["p"]}`, `{"$patch":"replace","s":["q"]}`, `{"s":["q"]}`},
		{"OddL", `[{"$patch":"x","id":1}]`, `[{"$patch":"merge","$x":1,"id":1}]`, `[{"$patch":"x","$x":1,"id":1}]`},
		{"OddL", `[{"$patch":"x","id":1}]`, `[{"$patch":"delete","id":1}]`, `[]`},
		// an element by a key field $patch: what it says is the word, too
		{"OddP", `[{"$patch":"merge","id":1}]`, `[{"$patch":"merge","$x":1,"id":1},{"$patch":"merge","id":1,"s":["p"]}]`, `[{"$patch":"merge","$x":1,"id":1,"s":["p"]}]`},
		{"OddP", `[{"$patch":"merge","id":1}]`, `[{"$patch":"merge","$x":1,"id":2},{"$patch":"merge","id":2}]`, `[{"$patch":"merge","id":1},{"$x":1,"id":2},{"id":2}]`}, // they have not all key fields then
		{"OddP", `[{"$patch":"replace","id":1},{"$patch":"y","id":1}]`, `[{"$patch":"replace","$x":1,"id":1},{"$patch":"replace","$x":2,"id":1}]`, `[{"$x":1,"id":1},{"$patch":"y","id":1},{"$x":2,"id":1}]`},
		{"OddP", `[{"$patch":"delete","id":1},{"$patch":"delete","id":2}]`, `[{"$patch":"delete","id":1}]`, `[{"$patch":"delete","id":2}]`},
		{"OddP", `[{"$patch":"delete","id":1}]`, `[{"$patch":"replace"}]`, `[]`},
		{"OddD", `[{"$delete/s":1}]`, `[{"$patch":"replace"}]`, `[]`},
	} {
		c.check(t)
	}
}

func TestCheck(t *testing.T) {
	for _, c := range []struct {
		typ  string
		bad  []string
		good []string
	}{
		{"T", []string{
			`{"$patch":null}`, `{"$patch":"Merge"}`, `{"$patch":""}`, `{"$patch":["merge"]}`, `{"$patch":true}`, `{"$patch":{"$patch":"merge"}}`, `{"$patch":5,"a":1}`,
			`{"$patch":"delete","a":null}`, `{"$patch":"delete","z":1}`, `{"$patch":"delete","$delete/s":[]}`, `{"$patch":"delete","id":1}`,
			`{"$delete/":[]}`, `{"$delete/z":[]}`, `{"$delete/a":[]}`, `{"$delete/l":[]}`, `{"$delete/m":[]}`, `{"$delete/w":[]}`, `{"$delete/$patch":[]}`, `{"$delete/$delete/s":[]}`, `{"$delete/s/":[]}`, `{"$delete/S":[]}`,
			`{"$delete/s":null}`, `{"$delete/s":{}}`, `{"$delete/s":5}`, `{"$delete/s":[null]}`, `{"$delete/s":["p",[]]}`, `{"$delete/s":[{}]}`, `{"$delete/s":[{"$patch":"replace"}]}`,
			`{"$patch":"replace","$delete/a":[]}`, `{"$patch":"replace","m":{"$patch":"wipe"}}`, `{"$patch":"replace","s":[{"$patch":"wipe"}]}`, `{"$patch":"merge","$delete/s":null,"a":1}`,
			`{"m":{"$patch":"wipe"}}`, `{"m":{"$patch":"delete","k":"v"}}`, `{"m":{"$delete/k":[]}}`, `{"m":{"$delete/k":["v"],"k":null}}`,
			`{"s":[{"$patch":"delete"}]}`, `{"s":[{"$patch":"replace","x":1}]}`, `{"s":["p",{"$patch":"replace"},{"$patch":"replace"}]}`, `{"s":[{"$patch":"replace"},{"$patch":"wipe"}]}`, `{"s":[{"$patch":null}]}`, `{"s":[{"$delete/s":[],"$patch":"replace"}]}`,
			`{"l":[{"$patch":"delete"}]}`, `{"l":[{"$patch":"merge"},{"id":1}]}`, `{"l":[{"$patch":"replace","x":"q"}]}`, `{"l":[{"$patch":"replace","id":null}]}`, `{"l":[{"$patch":"replace","id":[]}]}`, `{"l":[{"id":1,"$patch":"wipe"}]}`, `{"l":[{"id":1},{"id":2,"$patch":"delete","x":null}]}`, `{"l":[{"id":2,"$delete/x":[]}]}`, `{"l":[{"id":2,"$delete/id":[2]}]}`, `{"l":[{"$patch":"replace"},{"id":2,"$patch":5}]}`,
		}, []string{
			`null`, `5`, `[]`, `[{"$patch":"wipe"}]`, `{}`, `{"$patch":"merge"}`, `{"$patch":"replace"}`, `{"$patch":"delete"}`, `{"$patch":"merge","$delete/s":["p",1,true]}`, `{"$patch":"replace","$delete/s":["p"],"a":null,"z":5}`,
			`{"a":{"$patch":"wipe"}}`, `{"w":[{"$patch":"wipe"}]}`, `{"w":{"$delete/s":5}}`, `{"z":{"$patch":"wipe"},"zz":[{"$patch":"wipe"}]}`, `{"a":null,"l":null,"m":null,"s":null}`,
			`{"m":[{"$patch":"wipe"}]}`, `{"m":{"$patch":"delete"}}`, `{"m":{"k":{"$patch":"wipe"}}}`, `{"s":{"$patch":"wipe"}}`, `{"s":[{"x":{"$patch":"wipe"}},[{"$patch":"wipe"}]]}`, `{"s":["p",{"$patch":"replace"}]}`,
			`{"l":{"$patch":"wipe"}}`, `{"l":[{"$patch":"wipe"},{}]}`, `{"l":[{"$patch":"wipe","id":1},5]}`, `{"l":[{"$patch":"delete","id":"x"}]}`, `{"l":[{"id":1,"x":{"$patch":"wipe"},"y":{"$patch":"wipe"}}]}`, `{"l":[{"$patch":"replace"},{"$patch":"merge","id":true}]}`,
		}},
		{"Ms", []string{`{"$delete/k":5}`, `{"$delete/$patch":[]}`, `{"$delete/$delete/k":[]}`, `{"$delete/$delete/":[]}`, `{"k":[{"$patch":"merge"}]}`}, []string{`{"$delete/":["p"]}`, `{"$delete/k":["p"],"k":["p"]}`, `{"$delete/$delete":[]}`, `{"$delete/$patchy":[]}`, `{"k":null}`}},
		{"N", []string{`{"t":{"t":1,"$patch":"wipe"}}`, `{"n":[{"b":true,"id":1,"n":[{"b":true,"id":1,"$patch":"wipe"}]}]}`, `{"n":[{"$patch":"delete","b":true}]}`, `{"n":[{"b":true,"id":1,"t":{"$patch":"delete","id":1}}]}`, `{"ms":{"$patch":"x"}}`, `{"$patch":"delete","b":true}`}, []string{`{"at":{"$patch":"wipe"}}`, `{"ma":{"$delete/k":5}}`, `{"n":[{"$patch":"delete","b":true,"id":1}]}`, `{"n":[{"b":true,"n":[{"$patch":"wipe"}]}]}`}},
		{"S", []string{`[{"$patch":"merge"}]`}, []string{`[[{"$patch":"merge"}]]`, `{"$patch":"x"}`}},
		{"L", []string{`[{"$patch":"merge"}]`}, []string{`[{"$patch":"merge"},1]`}},
		{"W", nil, []string{`[{"$patch":"merge"}]`}},
		{"int", nil, []string{`{"$patch":"wipe"}`, `null`}},
		{"At", nil, []string{`{"$patch":"wipe","l":[{"$patch":"wipe"}],"s":[{"$patch":"wipe"}]}`}},
		{"Tree", []string{`{"a":{"b":{"c":{"$patch":"x"}}}}`, `{"a":{"$delete/b":[]}}`}, []string{`{"a":{"b":{"c":{"$patch":"delete"}}}}`, `{"a":[{"b":{"$patch":"x"}}]}`}},
		{"Odd", []string{`{"$delete/s":5}`, `{"$patch":"x"}`, `{"$delete/$delete/s":["p"]}`}, []string{`{"$delete/s":["p"]}`}},
		{"OddP", []string{`[{"$patch":"x","id":1}]`, `[{"$patch":5,"id":1}]`, `[{"$patch":"delete","$x":1,"id":1}]`, `[{"$patch":"delete"}]`, `[{"$patch":"replace","$x":1}]`}, []string{`[{"$patch":"delete","id":1}]`, `[{"$patch":"replace"}]`, `[{"$patch":"replace"},{"$patch":"merge","id":1}]`}},
		{"OddD", []string{`[{"$delete/s":5}]`, `[{"$delete/s":5,"$patch":"delete"}]`, `[{"$delete/s":5,"$patch":"replace"}]`}, []string{`[{"$patch":"replace"}]`, `[{"$delete/s":["p"]}]`, `[]`}},
	} {
		for _, p := range c.bad {
			if got, e := checkApply(t, example(), c.typ, none(c.typ), read(p)); e != api.ErrDirective || !same(got, null) {
				t.Errorf("P18.1: %s for %s: %s, %d", p, c.typ, show(got), e)
			}
		}
		for _, p := range c.good {
			if _, e := checkLaws(t, example(), c.typ, none(c.typ), read(p), map[string]int{}); e != api.OK {
				t.Errorf("P18.1: %s for %s: %d", p, c.typ, e)
			}
		}
	}
}

// none is the least value of a type of the example.
func none(typ string) api.Value {
	switch x := follow(example(), typ); {
	case x.Kind <= api.TypeStr:
		return num(0)
	case x.Kind == api.TypeList:
		return list()
	}
	return object()
}

func TestDiff(t *testing.T) {
	const bad = "out of reach"
	for i, c := range []struct{ typ, a, b, want string }{
		{"T", `{}`, `{}`, `{}`},
		{"S", `["p"]`, `["p"]`, `[]`},
		{"L", `[{"id":1}]`, `[{"id":1}]`, `[]`},
		{"int", `5`, `5`, `5`}, // of a leaf it is always b
		{"W", `[1]`, `[1]`, `[1]`},
		{"At", `{"$patch":"x"}`, `{"$patch":"y"}`, `{"$patch":"y"}`},
		{"Ma", `{}`, `{"$delete/k":1}`, `{"$delete/k":1}`},
		{"T", `{"a":1,"m":{"k":"v"},"w":[1]}`, `{"a":2,"m":{"k":"w"},"w":[]}`, `{"a":2,"m":{"k":"w"},"w":[]}`},
		{"T", `{"m":{"j":"","k":"v"}}`, `{"m":{"i":"","k":"v"}}`, `{"m":{"i":"","j":null}}`},
		{"Other", `{"m":{"k":"v"}}`, `{"s":["p"]}`, `{"m":null,"s":["p"]}`},
		{"M", `{"a":"","b":"","d":""}`, `{"b":"x","c":"","d":""}`, `{"a":null,"b":"x","c":""}`},
		{"N", `{"at":{"s":["p"]},"ma":{"j":1},"t":{"m":{"k":"v"},"w":[]}}`, `{"at":{"s":["q"]},"ma":{"k":1},"t":{"w":[]}}`, `{"at":{"s":["q"]},"ma":{"k":1},"t":{"m":null}}`},
		// sets
		{"S", `["p"]`, `["p","q"]`, `["q"]`},
		{"S", `["q"]`, `["p","q","r"]`, `["p","r"]`},
		{"S", `[]`, `["p"]`, `["p"]`},
		{"S", `["p"]`, `[]`, `[{"$patch":"replace"}]`},
		{"S", `["p","q"]`, `["q"]`, `[{"$patch":"replace"},"q"]`},
		{"T", `{"s":["p","q"]}`, `{"s":["q"]}`, `{"$delete/s":["p"]}`},
		{"T", `{"s":["q"]}`, `{"s":["p","q"]}`, `{"s":["p"]}`},
		{"T", `{"s":["a","b","c","e"]}`, `{"s":["b","d","f"]}`, `{"$delete/s":["a","c","e"],"s":["d","f"]}`},
		{"T", `{"s":["p"]}`, `{}`, `{"s":null}`},
		{"Ms", `{"":["a"],"!":["a"],"$":["a"],"$e":["a"],"k":["a"]}`, `{"":["b"],"!":["b"],"$":["b"],"$e":["b"],"k":["b"]}`, `{"":["b"],"!":["b"],"$":["b"],"$delete/":["a"],"$delete/!":["a"],"$delete/$":["a"],"$delete/$e":["a"],"$delete/k":["a"],"$e":["b"],"k":["b"]}`},
		{"Ms", `{"j":["a"]}`, `{"k":["a"]}`, `{"j":null,"k":["a"]}`},
		// keyed lists
		{"L", `[{"id":1,"x":"p"},{"id":2},{"id":4}]`, `[{"id":1,"x":"q"},{"id":2},{"id":3,"x":"r"},{"id":5}]`, `[{"id":1,"x":"q"},{"id":3,"x":"r"},{"$patch":"delete","id":4},{"id":5}]`},
		{"L", `[{"id":-1},{"id":10}]`, `[{"id":2}]`, `[{"$patch":"delete","id":-1},{"id":2},{"$patch":"delete","id":10}]`}, // by their numbers, not by their texts
		{"L", `[{"id":1}]`, `[]`, `[{"$patch":"delete","id":1}]`},
		{"L", `[]`, `[{"id":1,"x":""}]`, `[{"id":1,"x":""}]`},
		{"Ns", `[{"b":false,"id":1,"s":["p"]},{"b":false,"id":2},{"b":true,"id":1}]`, `[{"b":false,"id":1,"s":["q"]},{"b":true,"id":0},{"b":true,"id":1,"n":[{"b":true,"id":1}]}]`, `[{"$delete/s":["p"],"b":false,"id":1,"s":["q"]},{"$patch":"delete","b":false,"id":2},{"b":true,"id":0},{"b":true,"id":1,"n":[{"b":true,"id":1}]}]`},
		{"N", `{"n":[{"b":true,"id":1,"n":[{"b":true,"id":2,"s":["p"]}]}]}`, `{"n":[{"b":true,"id":1,"n":[{"b":true,"id":2}]}]}`, `{"n":[{"b":true,"id":1,"n":[{"b":true,"id":2,"s":null}]}]}`},
		// keys that no patch can reach
		{"M", `{"$patch":"x"}`, `{"$patch":"x"}`, `{}`},
		{"M", `{"$delete/k":"x","k":"v"}`, `{"$delete/k":"x"}`, `{"k":null}`},
		{"M", `{"$patch":"x"}`, `{"$patch":"y"}`, bad},
		{"M", `{"$patch":"x"}`, `{}`, bad},
		{"M", `{}`, `{"$delete/":"x"}`, bad},
		{"M", `{}`, `{"$delete":"x","$patc":"","$patchy":"","a$patch":""}`, `{"$delete":"x","$patc":"","$patchy":"","a$patch":""}`},
		{"Ms", `{"$patch":["a","b"]}`, `{"$patch":["a"]}`, bad},
		{"Ms", `{"$patch":["a"]}`, `{"$patch":["a","b"]}`, bad},
		{"N", `{"m":{"$patch":"x"}}`, `{}`, `{"m":null}`}, // it goes with what holds it
		{"N", `{}`, `{"m":{"$patch":"x"}}`, bad},          // part of a whole
		{"N", `{"m":{"$patch":"x","k":"v"}}`, `{"m":{"$patch":"x","k":"w"}}`, `{"m":{"k":"w"}}`},
		{"N", `{"at":{"$patch":"x"}}`, `{"at":{"$patch":"y"}}`, `{"at":{"$patch":"y"}}`}, // within leaves nothing is read
		{"N", `{}`, `{"at":{"$patch":"y"},"ma":{"$delete/k":1}}`, `{"at":{"$patch":"y"},"ma":{"$delete/k":1}}`},
		{"N", `{}`, `{"n":[{"b":true,"id":1,"ms":{"$patch":["p"]}}]}`, bad},
		{"N", `{"n":[{"b":true,"id":1}]}`, `{"n":[{"b":true,"id":1},{"b":true,"id":2,"m":{"$patch":""}}]}`, bad},
		{"N", `{"n":[{"b":true,"id":1,"m":{"$patch":""}},{"b":true,"id":2}]}`, `{"n":[{"b":true,"id":2}]}`, `{"n":[{"$patch":"delete","b":true,"id":1}]}`},
		{"Odd", `{"$delete/s":["p"],"s":["p"]}`, `{"$delete/s":["p"],"s":["q"]}`, `{"$delete/s":["p"],"s":["q"]}`},
		{"Odd", `{"$delete/s":["p"],"s":["p"]}`, `{"s":["p"]}`, bad},
		{"OddL", `[{"$patch":"x","id":1}]`, `[{"$patch":"x","$x":1,"id":1}]`, `[{"$x":1,"id":1}]`},
		{"OddL", `[{"$patch":"x","id":1}]`, `[{"$patch":"y","id":1}]`, bad},
		{"OddL", `[]`, `[{"$patch":"x","id":1}]`, bad},
		{"OddP", `[{"$patch":"merge","id":1}]`, `[{"$patch":"merge","id":1}]`, `[]`},
		{"OddP", `[{"$patch":"merge","id":1}]`, `[{"$patch":"merge","$x":1,"id":1}]`, bad},
		{"OddP", `[{"$patch":"merge","id":1}]`, `[]`, bad},
		{"OddP", `[]`, `[{"$patch":"merge","id":1}]`, bad},
		{"OddT", `{"d":[{"$delete/s":1}],"p":[{"$patch":"x","id":1}]}`, `{"d":[{"$delete/s":1}]}`, `{"p":null}`},
		{"OddT", `{"d":[{"$delete/s":1},{"$delete/s":2}]}`, `{"d":[{"$delete/s":1}]}`, bad},
		{"OddT", `{}`, `{"d":[{"$delete/s":1}]}`, bad},
		{"OddT", `{"o":{"$patch":"x","id":1}}`, `{"o":{"$patch":"x","s":["p"]}}`, `{"o":{"id":null,"s":["p"]}}`},
	} {
		p, e := checkWay(t, example(), c.typ, read(c.a), read(c.b))
		if c.want == bad && (e != api.ErrDirective || !same(p, null)) || c.want != bad && (e != api.OK || show(p) != c.want) {
			t.Errorf("P18.3: the case %d: from %s to %s of %s: %s, %d, want %s", i, c.a, c.b, c.typ, show(p), e, c.want)
		}
	}
}

// Every choice of what is wrong: the first in the chapter's order is told, with nothing beside it.
func TestOrderOfErrors(t *testing.T) {
	large := object(at("s", list(numbered(40000, 70000)...)))
	for bits := range 1 << 6 {
		has := func(i int) bool { return bits>>i&1 == 1 }
		s, typ, v, p := example(), "T", object(at("s", list(numbered(0, 40000)...))), object()
		if has(5) {
			p = large
		}
		if has(4) {
			p = with(p, "$patch", null)
		}
		if has(3) {
			v = with(v, "m", object())
		}
		if has(2) {
			v = with(v, "z", null)
		}
		if has(1) {
			typ = "Nix"
		}
		if has(0) {
			s = broken()
		}
		want := api.OK
		for i, e := range []api.Errno{api.ErrSchemaName, api.ErrSchemaRef, api.ErrField, api.ErrLeaf, api.ErrDirective, api.ErrNodes} {
			if has(i) && want == api.OK {
				want = e
			}
		}
		if got, e := strategic.Apply(s, typ, v, p); e != want || e != api.OK && !same(got, null) {
			t.Fatalf("P18.2: with the faults %b: %d, want %d", bits, e, want)
		}
		checks := map[api.Errno]api.Errno{api.ErrField: api.OK, api.ErrLeaf: api.OK, api.ErrNodes: api.OK}
		if not, is := checks[want]; is {
			want = not
			if has(4) {
				want = api.ErrDirective
			}
		}
		if e := strategic.Check(s, typ, p); e != want {
			t.Fatalf("P18.1: with the faults %b: %d, want %d", bits, e, want)
		}
	}
}

// Of a Diff, too: what is wrong with a is told ahead of what is wrong with b.
func TestOrderOfErrorsOfDiff(t *testing.T) {
	long := strings.Repeat("k", 600000)
	for bits := range 1 << 8 {
		has := func(i int) bool { return bits>>i&1 == 1 }
		s, typ, a, b := example(), "N", object(at("m", object(at("$patch", text(""))))), object(at("m", object(at("$patch", text("")))))
		if has(7) {
			a, b = with(a, "ms", object(at(long, list(text("p"))))), with(b, "ms", object(at(long, list(text("q")))))
		}
		if has(6) {
			a.Map[0].Val = with(a.Map[0].Val, "$patch", text("x"))
		}
		for i, v := range []*api.Value{&b, &a} {
			if has(5 - 2*i) {
				*v = with(*v, "t", object())
			}
			if has(4 - 2*i) {
				*v = with(*v, "z", null)
			}
		}
		if has(1) {
			typ = "Nix"
		}
		if has(0) {
			s = broken()
		}
		want := api.OK
		for i, e := range []api.Errno{api.ErrSchemaName, api.ErrSchemaRef, api.ErrField, api.ErrLeaf, api.ErrField, api.ErrLeaf, api.ErrDirective, api.ErrBytes} {
			if has(i) && want == api.OK {
				want = e
			}
		}
		if got, e := strategic.Diff(s, typ, a, b); e != want || e != api.OK && !same(got, null) {
			t.Fatalf("P18.3: with the faults %b: %d, want %d", bits, e, want)
		}
	}
}

// The errors of the layers below, as they are.
func TestErrors(t *testing.T) {
	loop := list(null)
	loop.List[0] = loop
	long := object(at("k", text(strings.Repeat("a", api.MaxText))))
	for i, c := range []struct {
		s       api.Schema
		typ     string
		v       api.Value
		asPatch api.Errno // what is told of v as a patch
		asValue api.Errno
	}{
		{api.Schema{Types: []api.Type{{}}}, "T", object(), api.ErrSchemaName, api.ErrSchemaName},
		{api.Schema{}, "T", object(), api.ErrSchemaRef, api.ErrSchemaRef},
		{api.Schema{Types: []api.Type{{Name: "A", Kind: api.TypeName, Elem: "A"}}}, "A", object(), api.ErrSchemaLoop, api.ErrSchemaLoop},
		{example(), "", object(), api.ErrSchemaRef, api.ErrSchemaRef},
		{example(), "t", object(), api.ErrSchemaRef, api.ErrSchemaRef}, // a kind is no type
		{example(), "T", null, api.OK, api.ErrNull},
		{example(), "T", num(5), api.OK, api.ErrShape},
		{example(), "T", read(`{"z":null}`), api.OK, api.ErrField},
		{example(), "T", read(`{"s":["q","p"]}`), api.OK, api.ErrLeaf},
		{example(), "T", read(`{"s":[]}`), api.OK, api.ErrLeaf},
		{example(), "T", read(`{"a":null}`), api.OK, api.ErrLeaf},
		{example(), "L", read(`[{"id":2},{"id":1}]`), api.OK, api.ErrLeaf},
		{example(), "T", read(`{"s":["p","p"]}`), api.OK, api.ErrTwice},
		{example(), "T", read(`{"l":[{"x":""}]}`), api.OK, api.ErrKey},
		{example(), "T", api.Value{Kind: 9}, api.ErrValue, api.ErrValue},
		{example(), "T", object(at("$patch", api.Value{Kind: api.Str, Str: "\xff"})), api.ErrValue, api.ErrValue},
		{example(), "T", object(at("b", null), at("a", null)), api.ErrValue, api.ErrValue},
		{example(), "Tree", tree(33), api.ErrDeep, api.ErrDeep},
		{example(), "Tree", tree(32), api.OK, api.ErrLeaf},
		{example(), "W", list(make([]api.Value, 65536)...), api.ErrNodes, api.ErrNodes},
		{example(), "W", loop, api.ErrDeep, api.ErrDeep},
		{example(), "M", long, api.ErrBytes, api.ErrBytes},
	} {
		v := none("T")
		if c.typ != "t" && c.typ != "" && c.asPatch != api.ErrSchemaName && c.asPatch != api.ErrSchemaRef && c.asPatch != api.ErrSchemaLoop {
			v = none(c.typ)
		}
		if e := strategic.Check(c.s, c.typ, c.v); e != c.asPatch {
			t.Errorf("P18.1: the case %d: %d, want %d", i, e, c.asPatch)
		}
		if got, e := strategic.Apply(c.s, c.typ, v, c.v); e != c.asPatch || e != api.OK && !same(got, null) {
			t.Errorf("P18.2: the case %d, as the patch: %s, %d, want %d", i, show(got), e, c.asPatch)
		}
		if got, e := strategic.Apply(c.s, c.typ, c.v, object()); e != c.asValue || !same(got, null) {
			t.Errorf("P18.2: the case %d: %s, %d, want %d", i, show(got), e, c.asValue)
		}
		if got, e := strategic.Diff(c.s, c.typ, c.v, v); e != c.asValue || !same(got, null) {
			t.Errorf("P18.3: the case %d, from it: %s, %d, want %d", i, show(got), e, c.asValue)
		}
		if got, e := strategic.Diff(c.s, c.typ, v, c.v); e != c.asValue || !same(got, null) {
			t.Errorf("P18.3: the case %d, to it: %s, %d, want %d", i, show(got), e, c.asValue)
		}
	}
}

// What comes out may have as many values and bytes as may be, and none more.
func TestBounds(t *testing.T) {
	s := example()
	half := list(numbered(0, 40000)...)
	for _, c := range []struct {
		n int
		e api.Errno
	}{{65535, api.OK}, {65536, api.ErrNodes}} {
		p := list(numbered(30000, c.n)...)
		got, e := strategic.Apply(s, "S", half, p)
		if e != c.e || e == api.OK && !same(got, list(numbered(0, c.n)...)) || e != api.OK && !same(got, null) {
			t.Errorf("P18.2: %d items: %d", c.n, e)
		}
		a, b := object(), object()
		for i, x := range numbered(0, c.n) {
			m := at(x.Str, text(""))
			if i%2 == 0 {
				a.Map = append(a.Map, m)
			} else {
				b.Map = append(b.Map, m)
			}
		}
		d, e := strategic.Diff(s, "M", a, b)
		if e != c.e || len(d.Map) != c.n && e == api.OK || e != api.OK && !same(d, null) {
			t.Errorf("P18.3: %d keys: %d", c.n, e)
		}
	}
	for _, c := range []struct {
		n int
		e api.Errno
	}{{0, api.OK}, {1, api.ErrBytes}} {
		a, b := strings.Repeat("a", api.MaxText/2), strings.Repeat("b", api.MaxText/2+c.n)
		if got, e := strategic.Apply(s, "S", list(text(a)), list(text(b))); e != c.e || e == api.OK && !same(got, list(text(a), text(b))) || e != api.OK && !same(got, null) {
			t.Errorf("P18.2: %d bytes too many: %d", c.n, e)
		}
		k := strings.Repeat("k", (api.MaxText-10)/2+c.n)
		d, e := strategic.Diff(s, "Ms", object(at(k, list(text("p")))), object(at(k, list(text("q")))))
		if e != c.e || e == api.OK && !same(d, object(at("$delete/"+k, list(text("p"))), at(k, list(text("q"))))) || e != api.OK && !same(d, null) {
			t.Errorf("P18.3: %d bytes too many: %d", c.n, e)
		}
	}
	// what is too large by itself may be, if a patch makes it smaller
	if got, e := strategic.Apply(s, "T", object(at("s", half)), object(at("$patch", text("replace")), at("s", list(numbered(40000, 80000)...)))); e != api.OK || len(got.Map[0].Val.List) != 40000 {
		t.Errorf("P18.2: replaced: %d", e)
	}
	if got, e := strategic.Apply(s, "T", object(at("s", half)), object(at("$delete/s", list(numbered(0, 20000)...)), at("s", list(numbered(40000, 80000)...)))); e != api.OK || len(got.Map[0].Val.List) != 60000 {
		t.Errorf("P18.2: items that go: %d", e)
	}
}

// The deepest that may be.
func TestDeepest(t *testing.T) {
	s, v, w := api.Schema{Types: []api.Type{{Name: "M00", Kind: api.TypeMap, Elem: "string"}}}, object(at("k", text(""))), object(at("j", text("")), at("k", text("")))
	for i := range 31 {
		s.Types = append(s.Types, api.Type{Name: fmt.Sprintf("M%02d", i+1), Kind: api.TypeMap, Elem: s.Types[i].Name})
		v, w = object(at("k", v)), object(at("k", w))
	}
	p, e := checkWay(t, s, "M31", v, w)
	if e != api.OK || value.Depth(p) != 32 {
		t.Errorf("P18.3: the deepest patch: %s, %d", show(p), e)
	}
	if p, e := checkWay(t, s, "M31", w, v); e != api.OK || value.Depth(p) != 32 || !strings.Contains(show(p), `{"j":null}`) {
		t.Errorf("P18.3: the deepest patch back: %s, %d", show(p), e)
	}
	if got, e := checkLaws(t, s, "M31", v, w, map[string]int{}); e != api.OK || !same(got, w) {
		t.Errorf("P18.2: the deepest patch: %s, %d", show(got), e)
	}
	if _, e := checkApply(t, example(), "Tree", object(), tree(32)); e != api.OK {
		t.Errorf("P18.2: the deepest tree: %d", e)
	}
}

// Many elements, each of them met by a patch; and few, to which it comes thousands of times.
func TestLarge(t *testing.T) {
	const n = 15000
	s := example()
	element := func(k int, l ...api.Member) api.Value { return object(append([]api.Member{at("id", num(k))}, l...)...) }
	var v, p, want []api.Value
	for k := range n {
		v = append(v, element(k, at("x", text("p"))))
		switch k % 3 {
		case 0:
			p = append(p, object(at("$patch", text("delete")), at("id", num(k))))
		case 1:
			p, want = append(p, element(k, at("x", text("q")))), append(want, element(k, at("x", text("q"))))
		default:
			want = append(want, v[k])
		}
		if k%5 == 0 {
			p, want = append(p, element(n+k)), append(want, element(n+k))
		}
	}
	got, e := strategic.Apply(s, "L", list(v...), list(p...))
	norm, f := validate.Normal(s, "L", got)
	slices.SortFunc(want, func(x, y api.Value) int { return x.Map[0].Val.Int - y.Map[0].Val.Int })
	if e != api.OK || f != api.OK || !same(norm, list(want...)) {
		t.Fatalf("P18.2: many elements: %d, %d", e, f)
	}
	if d, e := strategic.Diff(s, "L", list(v...), norm); e != api.OK || len(d.List) != len(p) {
		t.Errorf("P18.3: many elements: %d, %d", len(d.List), e)
	}
	items, one := numbered(0, 20000), object()
	for _, x := range items {
		one.Map = append(one.Map, at(x.Str, x))
	}
	head := func(l ...api.Member) api.Value {
		return object(append([]api.Member{at("b", truth(true)), at("id", num(1))}, l...)...)
	}
	p = nil
	for _, x := range numbered(20000, 24000) {
		p = append(p, head(at("m", object(at(x.Str, x))), at("s", list(x))))
		p = append(p, with(head(at("m", object(at("000000", x)))), "$delete/s", list(text(x.Str[:5]+"0"))))
	}
	got, e = strategic.Apply(s, "Ns", list(head(at("m", one), at("s", list(items...)))), list(p...))
	if e != api.OK || len(got.List) != 1 || len(keyOf(got.List[0], "m").Map) != 24000 || keyOf(got.List[0], "m").Map[0].Val.Str != "023999" || len(keyOf(got.List[0], "s").List) != 20000+3600 {
		t.Errorf("P18.2: one element over and over: %d", e)
	}
}
