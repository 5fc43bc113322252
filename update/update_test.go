package update

import (
	"fmt"
	"slices"
	"strings"
	"testing"

	"freehold/api"
	"freehold/apply"
	"freehold/json"
	"freehold/path"
	"freehold/record"
	"freehold/validate"
	"freehold/value"
)

// example is chapter 12's types, and some more.
func example() api.Schema {
	return api.Schema{
		Types: []api.Type{
			{Name: "At", Kind: api.TypeStruct, Atomic: true, Fields: fields("l", "L", "u", "int")},
			{Name: "E", Kind: api.TypeStruct, Fields: fields("id", "int", "x", "string")},
			{Name: "L", Kind: api.TypeList, Rel: api.Keyed, Keys: []string{"id"}, Elem: "E"},
			{Name: "M", Kind: api.TypeMap, Elem: "string"},
			{Name: "Ma", Kind: api.TypeMap, Atomic: true, Elem: "int"},
			{Name: "N", Kind: api.TypeStruct, Fields: fields("at", "At", "b", "bool", "id", "int", "m", "M", "ma", "Ma", "n", "Ns", "s", "S")},
			{Name: "Ns", Kind: api.TypeList, Rel: api.Keyed, Keys: []string{"b", "id"}, Elem: "N"},
			{Name: "Other", Kind: api.TypeName, Elem: "T"},
			{Name: "S", Kind: api.TypeList, Rel: api.Set, Elem: "string"},
			{Name: "T", Kind: api.TypeStruct, Fields: fields("a", "int", "l", "L", "m", "M", "s", "S", "w", "W")},
			{Name: "Tree", Kind: api.TypeMap, Elem: "Tree"},
			{Name: "W", Kind: api.TypeList, Elem: "int"},
		},
		Roots: []api.Root{{Kind: "t", Type: "T"}},
	}
}

// broken is the example with a type that stands there twice.
func broken() api.Schema {
	s := example()
	s.Types = append(s.Types, s.Types[len(s.Types)-1])
	return s
}

const (
	applied = api.ByApply
	updated = api.ByUpdate
)

// texts is paths as a person reads them.
func texts(l []api.Path) string {
	var to []string
	for _, p := range l {
		s, _ := path.Text(p)
		to = append(to, s)
	}
	return strings.Join(to, " ")
}

func wayText(way int) string { return []string{"nothing", "apply", "update", "3"}[way] }

// told is an object as a person reads it.
func told(o api.Object) string {
	b, _ := json.Print(o.Value, api.DeepRecord)
	s := string(b)
	for _, x := range o.Entries {
		s += fmt.Sprintf("; %s/%s: %s", x.Manager, wayText(x.Way), texts(x.Fields))
	}
	return s
}

// to is an Update of an object of the example.
func to(typ string, o api.Object, manager, v string) write {
	return write{example(), typ, o, true, manager, read(v)}
}

// fresh is a Create.
func fresh(typ, manager, v string) write {
	return write{example(), typ, api.Object{}, false, manager, read(v)}
}

// many is entries by apply of so many managers.
func many(n int, paths ...string) []api.Entry {
	var l []api.Entry
	for i := range n {
		l = append(l, entry(fmt.Sprintf("m%03d", i), applied, paths...))
	}
	return l
}

// tree is a value of the type Tree, so deep.
func tree(depth int) api.Value {
	v := object()
	for range depth {
		v = object(at("k", v))
	}
	return v
}

// The chapter's examples.
func TestExamples(t *testing.T) {
	const one = `{"a":1,"l":[{"id":1,"x":"q"}]}`
	o := of(one, entry("n", applied, ".a", ".l[id=1]", ".l[id=1].x"))
	all := of(`{"a":1}`, many(64, ".a")...)
	for i, c := range []struct {
		a    write
		want string
		e    api.Errno
	}{
		{to("T", o, "m", `{"a":2,"l":[{"id":1,"x":"q"}]}`), `{"a":2,"l":[{"id":1,"x":"q"}]}; m/update: .a; n/apply: .l[id=1] .l[id=1].x`, api.OK},
		{to("T", o, "n", `{"a":2,"l":[{"id":1,"x":"q"}]}`), `{"a":2,"l":[{"id":1,"x":"q"}]}; n/apply: .l[id=1] .l[id=1].x; n/update: .a`, api.OK},
		{to("T", o, "m", `{"a":1}`), `{"a":1}; n/apply: .a`, api.OK},
		{to("T", o, "m", `{}`), `{}`, api.OK},
		{to("T", o, "m", `{"s":[],"m":{"k":null},"l":[{"x":"q","id":1}],"a":1,"w":null}`), told(o), api.OK},
		{to("T", o, "m", `{"a":1,"l":[{"id":1,"x":"r"},{"id":2}]}`), `{"a":1,"l":[{"id":1,"x":"r"},{"id":2}]}; m/update: .l[id=1].x .l[id=2]; n/apply: .a .l[id=1]`, api.OK},
		{fresh("T", "m", `{"a":1,"m":{"k":null}}`), `{"a":1}; m/update: .a`, api.OK},
		{fresh("T", "m", `{}`), `{}`, api.OK},
		{to("T", o, "", one), `null`, api.ErrName},
		{to("T", o, "m", `{"b":1}`), `null`, api.ErrField},
		{to("T", of(`{"a":1}`, entry("n", applied, ".zz")), "m", `{}`), `null`, api.ErrRecord},
		{to("T", of(`{}`, entry("n", applied, ".zz")), "", `{"b":1}`), `null`, api.ErrRecord},
		{to("T", of(`{}`), "", `{"b":1}`), `null`, api.ErrName},
		{to("T", of(`{}`), "m", `{"b":1}`), `null`, api.ErrField},
		{to("T", all, "other", `{"a":2}`), `{"a":2}; other/update: .a`, api.OK},
		{to("T", all, "other", `{"a":1,"m":{"k":"v"}}`), `null`, api.ErrManagers},
	} {
		if got, e := c.a.check(t); e != c.e || told(got) != c.want {
			t.Errorf("P17.1, P17.2: the case %d: %s, %d, want %s, %d", i, told(got), e, c.want, c.e)
		}
		checkLaws(t, c.a)
	}
}

func TestCreate(t *testing.T) {
	for i, c := range []struct {
		a    write
		want string
	}{
		{fresh("T", "m", `{"s":["q","p"],"m":{},"w":[],"l":[{"x":"","id":2},{"x":null,"id":-1}]}`), `{"l":[{"id":-1},{"id":2,"x":""}],"s":["p","q"],"w":[]}; m/update: .l[id=-1] .l[id=2] .l[id=2].x .s[="p"] .s[="q"] .w`},
		{fresh("Other", "m", `{"a":5}`), `{"a":5}; m/update: .a`},
		{fresh("T", strings.Repeat("\u00e9", 32), `{"a":null,"l":[],"m":{"k":null}}`), `{}`},
		{fresh("M", "m", `{"":"","k":"v"}`), `{"":"","k":"v"}; m/update: ."" .k`},
		{fresh("S", "m", `["q","p"]`), `["p","q"]; m/update: [="p"] [="q"]`},
		{fresh("S", "m", `[]`), `[]`},
		{fresh("L", "m", `[{"id":1,"x":""}]`), `[{"id":1,"x":""}]; m/update: [id=1] [id=1].x`},
		{fresh("L", "m", `[]`), `[]`},
		// what is a leaf from the root on has one
		{fresh("int", "m", `5`), `5; m/update: `},
		{fresh("W", "m", `[]`), `[]; m/update: `},
		{fresh("At", "m", `{"l":[],"u":null}`), `{"l":[]}; m/update: `},
		{fresh("Ma", "m", `{}`), `{}; m/update: `},
	} {
		if got, e := c.a.check(t); e != api.OK || told(got) != c.want {
			t.Errorf("P17.1: the case %d: %s, %d, want %s", i, told(got), e, c.want)
		}
		checkLaws(t, c.a)
	}
}

// nested is a value with elements of keyed lists within elements, and things that are atomic.
const nested = `{"b":true,"ma":{"k":1},"n":[{"at":{"l":[],"u":1},"b":false,"id":1,"n":[{"b":false,"id":2,"s":["p"]},{"b":true,"id":2}]}]}`

const (
	one = ".n[b=false,id=1]"
	two = ".n[b=false,id=1].n[b=false,id=2]"
)

func TestUpdate(t *testing.T) {
	deep := of(nested, entry("j", applied, ".b", ".ma", one, one+".at", two, two+`.s[="p"]`), entry("m", updated, one+".n[b=true,id=2]"), entry("n", updated, two+`.s[="p"]`))
	const v = `{"a":1,"m":{"j":"","k":"v"}}`
	for i, c := range []struct {
		a    write
		want string
	}{
		{to("T", of(`{}`), "m", `{}`), `{}`},
		{to("T", of(`{}`), "m", `{"a":1}`), `{"a":1}; m/update: .a`},
		{to("T", of(`{"a":1}`), "m", `{"a":1}`), `{"a":1}`}, // what nobody has stays nobody's, unless it is changed
		{to("T", of(`{"a":1}`), "m", `{"a":2}`), `{"a":2}; m/update: .a`},
		{to("T", of(`{"a":1}`), "m", `{}`), `{}`},
		// what is added is the writer's besides what it has
		{to("T", of(`{"a":1}`, entry("m", updated, ".a")), "m", `{"a":1,"w":[]}`), `{"a":1,"w":[]}; m/update: .a .w`},
		{to("T", of(`{"w":[]}`, entry("m", updated, ".w")), "m", `{"a":1,"w":[]}`), `{"a":1,"w":[]}; m/update: .a .w`},
		{to("T", of(`{"a":1}`, entry("m", applied, ".a")), "m", `{"a":1,"w":[]}`), `{"a":1,"w":[]}; m/apply: .a; m/update: .w`},
		{to("T", of(`{"a":1}`, entry("n", updated, ".a")), "m", `{"a":1,"w":[]}`), `{"a":1,"w":[]}; m/update: .w; n/update: .a`},
		// what is changed all others lose; the writer's own entry by apply, too
		{to("T", of(v, entry("m", updated, ".a", ".m.j")), "m", `{"a":2,"m":{"j":"","k":"v"}}`), `{"a":2,"m":{"j":"","k":"v"}}; m/update: .a .m.j`},
		{to("T", of(v, entry("m", applied, ".a", ".m.j"), entry("m", updated, ".m.k")), "m", `{"a":2,"m":{"j":"","k":"w"}}`), `{"a":2,"m":{"j":"","k":"w"}}; m/apply: .m.j; m/update: .a .m.k`},
		{to("T", of(v, entry("l", applied, ".a"), entry("l", updated, ".m.k"), entry("m", applied, ".a"), entry("n", updated, ".a", ".m.k")), "m", `{"a":2,"m":{"j":"","k":"v"}}`), `{"a":2,"m":{"j":"","k":"v"}}; l/update: .m.k; m/update: .a; n/update: .m.k`},
		{to("T", of(v, entry("l", applied, ".a"), entry("l", updated, ".m.k"), entry("n", updated, ".a", ".m.k")), "l", `{"a":1,"m":{"j":"","k":"w"}}`), `{"a":1,"m":{"j":"","k":"w"}}; l/apply: .a; l/update: .m.k; n/update: .a`},
		// what is removed all lose
		{to("T", of(v, entry("l", applied, ".a"), entry("m", updated, ".a", ".m.j"), entry("n", updated, ".a", ".m.k")), "m", `{"m":{"j":"","k":"v"}}`), `{"m":{"j":"","k":"v"}}; m/update: .m.j; n/update: .m.k`},
		{to("T", of(v, entry("m", applied, ".m.k"), entry("m", updated, ".a")), "m", `{"a":1,"m":{"j":"","k":null}}`), `{"a":1,"m":{"j":""}}; m/update: .a`},
		{to("T", of(v, entry("m", updated, ".a"), entry("n", applied, ".m.k")), "m", `{"m":{"k":"v"}}`), `{"m":{"k":"v"}}; n/apply: .m.k`}, // the writer's own goes whole
		{to("T", of(v, entry("m", updated, ".m.k"), entry("n", applied, ".m.k")), "x", `{"a":1}`), `{"a":1}`},
		// all three at once, and entries in their order
		{to("T", of(v, entry("a", applied, ".a", ".m.j", ".m.k"), entry("m", applied, ".m.k"), entry("z", updated, ".a", ".m.j", ".m.k")), "m", `{"a":1,"m":{"i":"","k":"w"}}`), `{"a":1,"m":{"i":"","k":"w"}}; a/apply: .a; m/update: .m.i .m.k; z/update: .a`},
		{to("T", of(v, entry("a", applied, ".a"), entry("z", updated, ".a")), "b", `{"a":1,"m":{"j":"","k":"v"},"s":["p"]}`), `{"a":1,"m":{"j":"","k":"v"},"s":["p"]}; a/apply: .a; b/update: .s[="p"]; z/update: .a`},
		// names that begin alike are others
		{to("T", of(`{"a":1}`, entry("m", updated, ".a"), entry("mm", updated, ".a")), "mm", `{"a":2}`), `{"a":2}; mm/update: .a`},
		{to("T", of(`{"a":1}`, entry("m", updated, ".a"), entry("mm", updated, ".a")), "m", `{"a":2}`), `{"a":2}; m/update: .a`},
		// members and elements have no values: they are never changed
		{to("T", of(`{"s":["p","q"]}`, entry("n", applied, `.s[="p"]`, `.s[="q"]`)), "m", `{"s":["r","q","o"]}`), `{"s":["o","q","r"]}; m/update: .s[="o"] .s[="r"]; n/apply: .s[="q"]`},
		{to("T", of(`{"l":[{"id":1,"x":"q"}]}`, entry("n", applied, ".l[id=1]", ".l[id=1].x")), "m", `{"l":[{"id":1}]}`), `{"l":[{"id":1}]}; n/apply: .l[id=1]`},
		{to("T", of(`{"l":[{"id":1,"x":"q"}]}`, entry("n", updated, ".l[id=1].x")), "m", `{"l":[{"id":2,"x":"q"}]}`), `{"l":[{"id":2,"x":"q"}]}; m/update: .l[id=2] .l[id=2].x`}, // another key is another element
		// what is atomic is one leaf
		{to("T", of(`{"w":[1,2]}`, entry("n", applied, ".w")), "m", `{"w":[2,1]}`), `{"w":[2,1]}; m/update: .w`},
		{to("T", of(`{"w":[1,2]}`, entry("n", applied, ".w")), "m", `{"w":[]}`), `{"w":[]}; m/update: .w`},
		{to("N", of(`{"at":{"u":1}}`, entry("n", applied, ".at")), "m", `{"at":{"l":null,"u":1}}`), `{"at":{"u":1}}; n/apply: .at`},
		{to("N", of(`{"at":{"u":1}}`, entry("n", applied, ".at")), "m", `{"at":{"l":[],"u":1}}`), `{"at":{"l":[],"u":1}}; m/update: .at`},
		// elements within elements
		{to("N", deep, "m", nested), told(deep)},
		{to("N", deep, "m", `{"b":true,"ma":{"k":1}}`), `{"b":true,"ma":{"k":1}}; j/apply: .b .ma`},
		{to("N", deep, "m", `{"ma":{"k":1},"n":[{"b":false,"id":1,"n":[{"b":true,"id":2},{"b":false,"id":2}]}]}`), `{"ma":{"k":1},"n":[{"b":false,"id":1,"n":[{"b":false,"id":2},{"b":true,"id":2}]}]}; j/apply: .ma ` + one + " " + two + "; m/update: " + one + ".n[b=true,id=2]"},
		{to("N", deep, "n", `{"b":false,"n":[{"at":{"u":1},"b":false,"id":1,"n":[{"b":false,"id":2,"s":["o","p"]}]}]}`), `{"b":false,"n":[{"at":{"u":1},"b":false,"id":1,"n":[{"b":false,"id":2,"s":["o","p"]}]}]}; j/apply: ` + one + " " + two + " " + two + `.s[="p"]; n/update: .b ` + one + ".at " + two + `.s[="o"] ` + two + `.s[="p"]`},
		// roots
		{to("int", of(`5`, entry("m", applied, ""), entry("n", updated, "")), "x", `6`), `6; x/update: `},
		{to("int", of(`5`, entry("m", applied, ""), entry("n", updated, "")), "n", `6`), `6; n/update: `},
		{to("int", of(`5`, entry("m", applied, ""), entry("n", updated, "")), "m", `6`), `6; m/update: `},
		{to("int", of(`5`, entry("m", applied, ""), entry("n", updated, "")), "x", `5`), `5; m/apply: ; n/update: `},
		{to("S", of(`["p"]`, entry("m", applied, `[="p"]`)), "n", `["q"]`), `["q"]; n/update: [="q"]`},
		{to("L", of(`[{"id":1,"x":""}]`, entry("m", applied, "[id=1]", "[id=1].x")), "n", `[{"id":1,"x":"q"}]`), `[{"id":1,"x":"q"}]; m/apply: [id=1]; n/update: [id=1].x`},
		{to("Other", of(`{"a":1}`, entry("n", applied, ".a")), "m", `{"a":2}`), `{"a":2}; m/update: .a`},
	} {
		if got, e := c.a.check(t); e != api.OK || told(got) != c.want {
			t.Errorf("P17.2: the case %d: %s, %d, want %s", i, told(got), e, c.want)
		}
		checkLaws(t, c.a)
	}
}

func TestGains(t *testing.T) {
	for i, c := range []struct {
		typ, old, now, gained, lost string
		e                           api.Errno
	}{
		{"T", `{"a":1,"s":["p"]}`, `{"a":2,"m":{"k":"v"}}`, ".a .m.k", `.s[="p"]`, api.OK},
		{"T", `{"m":{"k":""},"w":[1]}`, `{"a":1,"l":[{"id":3,"x":""}],"m":{"k":"v"},"w":[]}`, ".a .l[id=3] .l[id=3].x .m.k .w", "", api.OK}, // added and changed in one order
		{"T", `{}`, `{}`, "", "", api.OK},
		{"T", `{"a":1,"l":[{"id":1},{"id":2}],"s":["q","p"]}`, `{"l":[{"id":2,"x":null},{"id":1}],"a":1,"s":["p","q"],"m":{}}`, "", "", api.OK},
		{"T", `{"a":null,"m":{"k":null},"s":[]}`, `{"a":1}`, ".a", "", api.OK}, // the old one is asked by its normal form, too
		{"T", `{"l":[{"id":1,"x":"q"}],"w":[1]}`, `{}`, "", ".l[id=1] .l[id=1].x .w", api.OK},
		{"T", `{"l":[{"id":1,"x":"q"}]}`, `{"l":[{"id":2,"x":"q"}]}`, ".l[id=2] .l[id=2].x", ".l[id=1] .l[id=1].x", api.OK},
		{"int", `1`, `2`, "", "", api.OK},
		{"int", `1`, `1`, "", "", api.OK},
		{"S", `["p"]`, `["q"]`, `[="q"]`, `[="p"]`, api.OK},
		{"Nix", `5`, `5`, "", "", api.ErrSchemaRef},
		{"T", `5`, `null`, "", "", api.ErrShape}, // the old one first
		{"T", `null`, `5`, "", "", api.ErrNull},
		{"T", `{}`, `5`, "", "", api.ErrShape},
		{"T", `{}`, `{"b":1}`, "", "", api.ErrField},
		{"T", `{"s":["p","p"]}`, `{}`, "", "", api.ErrTwice},
	} {
		got, e := checkGains(t, example(), c.typ, read(c.old), read(c.now))
		if e != c.e || texts(got.gained) != c.gained || texts(got.lost) != c.lost {
			t.Errorf("P17.3: the case %d: %s; %s; %d, want %s; %s; %d", i, texts(got.gained), texts(got.lost), e, c.gained, c.lost, c.e)
		}
	}
	if got, e := checkGains(t, example(), "int", num(1), num(2)); e != api.OK || len(got.gained) != 1 || len(got.gained[0]) != 0 || len(got.lost) > 0 {
		t.Errorf("P17.3: of a scalar: %s, %d", tell(got), e)
	}
	if _, e := checkGains(t, broken(), "Nix", null, null); e != api.ErrSchemaName {
		t.Errorf("P17.3: of no schema: %d", e)
	}
	if _, e := checkGains(t, example(), "Tree", tree(1), tree(33)); e != api.ErrDeep {
		t.Errorf("P17.3: of a value too deep: %d", e)
	}
}

// Every choice of what is wrong: the first in the chapter's order is told, with nothing beside it.
func TestOrderOfErrors(t *testing.T) {
	faults := []api.Errno{api.ErrSchemaName, api.ErrSchemaRef, api.ErrRecord, api.ErrName, api.ErrField, api.ErrManagers}
	for bits := range 1 << len(faults) {
		has := func(e api.Errno) bool { return bits>>slices.Index(faults, e)&1 == 1 }
		a := write{example(), "T", of(`{"a":1}`, many(63, ".a")...), true, "other", read(`{"a":1,"w":[]}`)}
		if has(api.ErrManagers) {
			a.o.Entries = many(64, ".a")
		}
		if has(api.ErrSchemaName) {
			a.s = broken()
		}
		if has(api.ErrSchemaRef) {
			a.typ = "Nix"
		}
		if has(api.ErrRecord) {
			a.o.Entries = append(slices.Clone(a.o.Entries[1:]), entry("n", applied, ".w"))
		}
		if has(api.ErrName) {
			a.manager = ""
		}
		if has(api.ErrField) {
			a.v.Map = append(a.v.Map, at("z", null))
		}
		first := func(l ...api.Errno) api.Errno {
			for _, e := range l {
				if has(e) {
					return e
				}
			}
			return api.OK
		}
		if got, e := a.check(t); e != first(faults...) || e != api.OK && !same(got, api.Object{}) {
			t.Fatalf("P17.2: with the faults %b: %s, %d", bits, tell(got), e)
		}
		if e, want := record.Check(a.s, a.typ, a.o), first(faults[:3]...); e != want {
			t.Fatalf("record.Check with the faults %b: %d, want %d", bits, e, want)
		}
		a.there = false // what stands in its object is not handed in
		want := first(api.ErrSchemaName, api.ErrSchemaRef, api.ErrName, api.ErrField)
		if got, e := a.check(t); e != want || e != api.OK && !same(got, api.Object{}) {
			t.Fatalf("P17.1: with the faults %b: %s, %d", bits, tell(got), e)
		}
	}
}

// The errors of the layers below, as they are.
func TestErrors(t *testing.T) {
	o := of(`{"a":1}`, entry("m", applied, ".a"))
	for i, c := range []struct {
		a      write
		e      api.Errno
		always bool // of Create, too
	}{
		{write{api.Schema{Types: []api.Type{{}}}, "T", o, true, "m", read(`{}`)}, api.ErrSchemaName, true},
		{write{api.Schema{}, "T", o, true, "m", read(`{}`)}, api.ErrSchemaRef, true},
		{write{api.Schema{Types: []api.Type{{Name: "A", Kind: api.TypeName, Elem: "A"}}}, "A", o, true, "m", read(`{}`)}, api.ErrSchemaLoop, true},
		{to("", o, "m", `{}`), api.ErrSchemaRef, true},
		{to("t", o, "m", `{}`), api.ErrSchemaRef, true}, // a kind is no type
		{to("T", of(`{"a":1}`, entry("m", applied, ".b")), "m", `{}`), api.ErrRecord, false},
		{to("T", of(`{"l":[{"id":1,"x":""}]}`, entry("n", applied, ".l[id=1].x")), "m", `{}`), api.ErrRecord, false},
		{to("T", of(`{"m":{}}`), "m", `{}`), api.ErrLeaf, false},
		{to("T", of(`{"s":["q","p"]}`), "m", `{"s":["q","p"]}`), api.ErrLeaf, false},
		{to("T", of(`{"b":1}`), "m", `{}`), api.ErrField, false},
		{to("T", of(`5`), "m", `{}`), api.ErrShape, false},
		{to("T", api.Object{}, "m", `{}`), api.ErrNull, false},
		{to("T", api.Object{Value: api.Value{Kind: 9}}, "m", `{}`), api.ErrValue, false},
		{to("T", of(`{"a":1}`, entry("", applied, ".a")), "m", `{}`), api.ErrName, false},
		{to("T", of(`{"a":1}`, entry("m", 3, ".a")), "m", `{}`), api.ErrEntries, false},
		{to("T", of(`{"a":1}`, entry("m", applied)), "m", `{}`), api.ErrEntries, false},
		{to("T", of(`{"a":1}`, entry("m", applied, ".a"), entry("m", updated, ".a")), "m", `{}`), api.ErrEntries, false},
		{to("T", of(`{"a":1}`, entry("n", applied, ".a"), entry("m", applied, ".a")), "m", `{}`), api.ErrEntries, false},
		{to("T", of(`{"a":1}`, entry("m", applied, ".a", ".a")), "m", `{}`), api.ErrSet, false},
		{to("T", of(`{"a":1}`, api.Entry{Manager: "m", Way: applied, Fields: []api.Path{{{}}}}), "m", `{}`), api.ErrPath, false},
		{to("T", of(`{"a":1}`, many(65, ".a")...), "m", `{}`), api.ErrManagers, false}, // ahead of it
		{to("T", of(`{"a":1}`, many(65, ".a")...), "m", `{"a":2}`), api.ErrManagers, false},
		{to("T", o, "", `{}`), api.ErrName, true},
		{to("T", o, "\xff", `{}`), api.ErrName, true},
		{to("T", o, "m\xed\xa0\x80", `{}`), api.ErrName, true},
		{to("T", o, strings.Repeat("m", 65), `{}`), api.ErrName, true},
		{to("T", o, strings.Repeat("\u00e9", 33), `{}`), api.ErrName, true}, // bytes, not letters
		{to("T", o, "m", `null`), api.ErrNull, true},
		{to("T", o, "m", `[]`), api.ErrShape, true},
		{to("T", o, "m", `{"a":"1"}`), api.ErrShape, true},
		{to("T", o, "m", `{"b":null}`), api.ErrField, true},
		{to("T", o, "m", `{"s":["p","p"]}`), api.ErrTwice, true},
		{to("T", o, "m", `{"l":[{"x":""}]}`), api.ErrKey, true},
		{to("T", o, "m", `{"s":[null]}`), api.ErrNull, true},
		{write{example(), "T", o, true, "m", api.Value{Kind: api.Str, Str: "\xff"}}, api.ErrValue, true},
		{write{example(), "Tree", of(`{}`), true, "m", tree(33)}, api.ErrDeep, true},
		{write{example(), "W", of(`[]`), true, "m", list(make([]api.Value, 65536)...)}, api.ErrNodes, true},
		{write{example(), "M", of(`{}`), true, "m", object(at("k", text(strings.Repeat("a", api.MaxText))))}, api.ErrBytes, true},
	} {
		if got, e := c.a.check(t); e != c.e || !same(got, api.Object{}) {
			t.Errorf("P17.2: the case %d: %s, %d, want %d", i, tell(got), e, c.e)
		}
		c.a.there = false
		if got, e := c.a.check(t); c.always && (e != c.e || !same(got, api.Object{})) || !c.always && e != api.OK {
			t.Errorf("P17.1: the case %d: %s, %d, want %d", i, tell(got), e, c.e)
		}
	}
	for _, name := range []string{"m", " ", "\x00", "/", strings.Repeat("m", 64), strings.Repeat("\u00e9", 32)} {
		if got, e := to("T", o, name, `{"a":7}`).check(t); e != api.OK || len(got.Entries) != 1 || got.Entries[0].Manager != name {
			t.Errorf("P17.2: the name %q: %d", name, e)
		}
	}
}

// Entries are counted when all is done.
func TestManagers(t *testing.T) {
	both := append(many(63, ".a"), entry("n", applied, ".a"), entry("n", updated, ".w"))
	for i, c := range []struct {
		l       []api.Entry // of {"a":1,"w":[]}
		manager string
		v       string
		entries int // -1: too many
	}{
		{many(64, ".a"), "x", `{"a":1,"w":[]}`, 64},
		{many(64, ".a"), "x", `{"a":1}`, 64},
		{many(64, ".a"), "x", `{"a":1,"w":[1]}`, -1},
		{many(63, ".a"), "x", `{"a":1,"w":[1]}`, 64},
		{many(64, ".a", ".w"), "x", `{"a":1,"w":[1]}`, -1}, // they lose some, not all
		{many(64, ".a", ".w"), "x", `{"a":2,"w":[1]}`, 1},
		{many(64, ".a", ".w"), "x", `{}`, 0},
		{many(64, ".a"), "x", `{"s":["p"],"w":[]}`, 1},                                       // what is removed makes room
		{append(many(63, ".a"), entry("n", applied, ".w")), "x", `{"a":1,"w":[1]}`, 64},      // one goes, one comes
		{append(many(63, ".a"), entry("n", applied, ".w")), "a", `{"a":1,"w":[1]}`, 64},      // at the other end
		{append(many(63, ".a"), entry("n", applied, ".w")), "x", `{"a":1,"s":["p"]}`, 64},    // removed here, added there
		{many(64, ".a"), "m000", `{"a":1,"w":[1]}`, -1},                                      // one manager has two
		{many(64, ".a", ".w"), "m000", `{"a":1,"w":[1]}`, -1},                                // both of it
		{append(many(63, ".a"), entry("n", applied, ".w")), "n", `{"a":1,"w":[1]}`, 64},      // its own goes
		{append(many(63, ".a"), entry("n", updated, ".w")), "n", `{"a":1,"w":[1]}`, 64},      // it has it already
		{append(many(63, ".a"), entry("n", updated, ".a")), "n", `{"a":1,"w":[1]}`, 64},      // and gets more
		{append(many(63, ".a"), entry("n", updated, ".w")), "n", `{"a":1,"s":["p"]}`, 64},    // loses it, and gets another
		{append(many(63, ".a"), entry("n", updated, ".w")), "m000", `{"a":1,"s":["p"]}`, 64}, // another's goes, one comes
		{both[1:], "n", `{"a":3,"w":[]}`, 1},
		{both[1:], "x", `{"a":1,"w":[1]}`, 64},
		{both[1:], "x", `{"a":1}`, 63},
	} {
		a := to("T", of(`{"a":1,"w":[]}`, c.l...), c.manager, c.v)
		got, e := a.check(t)
		if c.entries < 0 {
			if e != api.ErrManagers || !same(got, api.Object{}) {
				t.Errorf("P17.2: the case %d: %s, %d", i, told(got), e)
			}
			continue
		}
		if e != api.OK || len(got.Entries) != c.entries {
			t.Errorf("P17.2: the case %d: %d entries, %d", i, len(got.Entries), e)
		}
		checkLaws(t, a)
	}
}

// The deepest that may be, and the largest: by values, and by bytes.
func TestBounds(t *testing.T) {
	v := object(at("k", text("")))
	s := api.Schema{Types: []api.Type{{Name: "M00", Kind: api.TypeMap, Elem: "string"}}}
	for i := range 31 {
		name := fmt.Sprintf("M%02d", i+1)
		s.Types = append(s.Types, api.Type{Name: name, Kind: api.TypeMap, Elem: s.Types[i].Name})
		v = object(at("k", v))
	}
	a := write{s: s, typ: "M31", manager: "m", v: v}
	got, e := a.check(t)
	if e != api.OK || value.Depth(got.Value) != 32 || len(got.Entries) != 1 || len(got.Entries[0].Fields[0]) != 32 {
		t.Fatalf("P17.1: the deepest value: %s, %d", tell(got), e)
	}
	a = write{s, "M31", got, true, "n", object()}
	checkLaws(t, a)
	if got, e = a.check(t); e != api.OK || told(got) != `{}` {
		t.Errorf("P17.2: the deepest value, removed: %s, %d", told(got), e)
	}
	numbers := list(make([]api.Value, 65535)...)
	for i := range numbers.List {
		numbers.List[i] = num(i)
	}
	for _, a := range []write{
		{example(), "W", of(`[1]`, entry("n", applied, "")), true, "m", numbers},
		{example(), "M", of(`{"j":"v"}`, entry("n", applied, ".j")), true, "m", object(at("k", text(strings.Repeat("a", api.MaxText-1))))},
	} {
		if got, e := a.check(t); e != api.OK || !same(got.Value, a.v) || len(got.Entries) != 1 || got.Entries[0].Manager != "m" {
			t.Errorf("P17.2: the largest value: %d", e)
		}
	}
}

// A value that lies within itself is none, but the calls end.
func TestEndless(t *testing.T) {
	v := list(null)
	v.List[0] = v
	m := object(at("k", null))
	m.Map[0].Val = m
	for i, c := range []struct {
		o api.Object
		v api.Value
		e api.Errno
	}{
		{of(`{}`), v, api.ErrDeep},
		{of(`{}`), m, api.ErrDeep},
		{api.Object{Value: v}, object(), api.ErrDeep},
		{api.Object{Value: m}, object(), api.ErrDeep},
		{api.Object{Value: object(), Entries: []api.Entry{{Manager: "m", Way: applied, Fields: []api.Path{{item(v)}}}}}, object(), api.ErrPath},
	} {
		if _, e := Update(example(), "Tree", c.o, "m", c.v); e != c.e {
			t.Errorf("P17.2: the case %d: %d, want %d", i, e, c.e)
		}
		if _, _, e := Gains(example(), "Tree", c.o.Value, c.v); e != c.e && c.e != api.ErrPath {
			t.Errorf("P17.3: the case %d: %d, want %d", i, e, c.e)
		}
	}
	for _, x := range []api.Value{v, m} {
		if _, e := Create(example(), "Tree", "m", x); e != api.ErrDeep {
			t.Errorf("P17.1: %d", e)
		}
	}
}

// What is written counts by its normal form.
func TestNormalForm(t *testing.T) {
	o := of(`{"l":[{"id":1,"x":"q"},{"id":2}],"s":["p","q"]}`, entry("m", applied, ".l[id=1]", ".l[id=1].x", ".l[id=2]", `.s[="p"]`), entry("n", updated, `.s[="p"]`, `.s[="q"]`))
	for _, v := range []string{
		`{"l":[{"id":1,"x":"q"},{"id":2}],"s":["p","q"]}`,
		`{"a":null,"l":[{"id":2,"x":null},{"id":1,"x":"q"}],"m":{},"s":["q","p"]}`,
		`{"l":[{"id":2},{"id":1,"x":"q"}],"m":{"k":null},"s":["q","p"],"w":null}`,
	} {
		for _, manager := range []string{"m", "n", "other"} {
			if got, e := to("T", o, manager, v).check(t); e != api.OK || !same(got, o) || !validate.IsNormal(example(), "T", got.Value) {
				t.Errorf("P17.4: %s by %s: %s, %d", v, manager, told(got), e)
			}
		}
		if got, e := fresh("T", "m", v).check(t); e != api.OK || !same(got.Value, o.Value) || !validate.IsNormal(example(), "T", got.Value) {
			t.Errorf("P17.1: %s: %s, %d", v, told(got), e)
		}
	}
}

// One manager writes twice.
func TestTwice(t *testing.T) {
	const v = `{"a":1,"l":[{"id":1,"x":"q"}],"s":["p"]}`
	o := of(v, entry("m", applied, ".a"), entry("n", applied, ".a", ".l[id=1]", ".l[id=1].x"), entry("o", updated, `.s[="p"]`))
	for i, c := range []struct{ a, b, want string }{
		{`{}`, v, v + `; m/update: .a .l[id=1] .l[id=1].x .s[="p"]`}, // removed and put back: the writer's alone
		{`{"a":1,"s":["p"]}`, v, v + `; m/apply: .a; m/update: .l[id=1] .l[id=1].x; n/apply: .a; o/update: .s[="p"]`},
		{`{"a":1,"l":[{"id":1}],"s":["p"]}`, v, v + `; m/apply: .a; m/update: .l[id=1].x; n/apply: .a .l[id=1]; o/update: .s[="p"]`},
		{`{"a":2,"l":[{"id":1,"x":"q"}],"s":["p"]}`, v, v + `; m/update: .a; n/apply: .l[id=1] .l[id=1].x; o/update: .s[="p"]`}, // changed and changed back
		{`{"a":2,"l":[{"id":1,"x":"q"}],"s":["p"]}`, `{"l":[{"id":1,"x":"q"}],"s":["p"]}`, `{"l":[{"id":1,"x":"q"}],"s":["p"]}; n/apply: .l[id=1] .l[id=1].x; o/update: .s[="p"]`},
		{`{"a":1,"l":[{"id":1,"x":"q"}],"s":["o","p"]}`, v, v + `; m/apply: .a; n/apply: .a .l[id=1] .l[id=1].x; o/update: .s[="p"]`}, // added and removed
		{v, v, told(o)},
	} {
		if got := checkTwice(t, to("T", o, "m", c.a), read(c.b)); told(got) != c.want {
			t.Errorf("P17.5: the case %d: %s, want %s", i, told(got), c.want)
		}
	}
}

// What another one had by apply and the writer changed is lost to it, until it applies again.
func TestLostUntilApplied(t *testing.T) {
	const config = `{"a":1,"l":[{"id":1,"x":"q"}]}`
	o, _, _, e := apply.Apply(example(), "T", api.Object{}, false, "n", read(config), false)
	if e != api.OK {
		t.Fatal(e)
	}
	o, e = to("T", o, "m", `{"a":2,"l":[{"id":1,"x":"r"}]}`).check(t)
	if e != api.OK || told(o) != `{"a":2,"l":[{"id":1,"x":"r"}]}; m/update: .a .l[id=1].x; n/apply: .l[id=1]` {
		t.Fatalf("P17.5: %s, %d", told(o), e)
	}
	if again, e := to("T", o, "m", config).check(t); e != api.OK || told(again) != config+`; m/update: .a .l[id=1].x; n/apply: .l[id=1]` { // the old values do not bring it back
		t.Errorf("P17.5: %s, %d", told(again), e)
	}
	if _, _, l, e := apply.Apply(example(), "T", o, true, "n", read(config), false); e != api.ErrConflict || len(l) != 2 {
		t.Errorf("P17.5: %d conflicts, %d", len(l), e)
	}
	o, _, _, e = apply.Apply(example(), "T", o, true, "n", read(config), true)
	if e != api.OK || told(o) != config+`; n/apply: .a .l[id=1] .l[id=1].x` {
		t.Errorf("P17.5: applied again: %s, %d", told(o), e)
	}
}
