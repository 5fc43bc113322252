package apply

import (
	"fmt"
	"slices"
	"strings"
	"testing"

	"freehold/api"
	"freehold/json"
	"freehold/path"
	"freehold/record"
	"freehold/validate"
	"freehold/value"
)

// example is chapter 12's types, and some more.
func example() api.Schema {
	return api.Schema{
		Types: []api.Type{
			{Name: "At", Kind: api.TypeStruct, Atomic: true, Fields: fields("l", "L", "u", "int")},
			{Name: "E", Kind: api.TypeStruct, Fields: fields("id", "int", "x", "string")},
			{Name: "L", Kind: api.TypeList, Rel: api.Keyed, Keys: []string{"id"}, Elem: "E"},
			{Name: "M", Kind: api.TypeMap, Elem: "string"},
			{Name: "Ma", Kind: api.TypeMap, Atomic: true, Elem: "int"},
			{Name: "N", Kind: api.TypeStruct, Fields: fields("at", "At", "b", "bool", "id", "int", "m", "M", "ma", "Ma", "n", "Ns", "s", "S")},
			{Name: "Ns", Kind: api.TypeList, Rel: api.Keyed, Keys: []string{"b", "id"}, Elem: "N"},
			{Name: "Other", Kind: api.TypeName, Elem: "T"},
			{Name: "S", Kind: api.TypeList, Rel: api.Set, Elem: "string"},
			{Name: "T", Kind: api.TypeStruct, Fields: fields("a", "int", "l", "L", "m", "M", "s", "S", "w", "W")},
			{Name: "Tree", Kind: api.TypeMap, Elem: "Tree"},
			{Name: "W", Kind: api.TypeList, Elem: "int"},
		},
		Roots: []api.Root{{Kind: "t", Type: "T"}},
	}
}

// broken is the example with a type that stands there twice.
func broken() api.Schema {
	s := example()
	s.Types = append(s.Types, s.Types[len(s.Types)-1])
	return s
}

const (
	applied = api.ByApply
	updated = api.ByUpdate
)

// texts is paths as a person reads them.
func texts(l []api.Path) string {
	var to []string
	for _, p := range l {
		s, _ := path.Text(p)
		to = append(to, s)
	}
	return strings.Join(to, " ")
}

func wayText(way int) string { return []string{"nothing", "apply", "update", "3"}[way] }

// told is an object as a person reads it.
func told(o api.Object) string {
	b, _ := json.Print(o.Value, api.DeepRecord)
	s := string(b)
	for _, x := range o.Entries {
		s += fmt.Sprintf("; %s/%s: %s", x.Manager, wayText(x.Way), texts(x.Fields))
	}
	return s
}

// clashes is conflicts as a person reads them.
func clashes(l []api.Conflict) string {
	var to []string
	for _, c := range l {
		to = append(to, fmt.Sprintf("%s/%s: %s", c.Manager, wayText(c.Way), texts([]api.Path{c.Path})))
	}
	return strings.Join(to, "; ")
}

// to is an Apply to an object of the example.
func to(typ string, o api.Object, manager, config string) asked {
	return asked{example(), typ, o, true, manager, read(config)}
}

// fresh is an Apply where no object is.
func fresh(typ, manager, config string) asked {
	return asked{example(), typ, api.Object{}, false, manager, read(config)}
}

// line is a run of Applies, each to what the one ahead of it left.
type line struct {
	t     *testing.T
	o     api.Object
	there bool
}

// gets holds that an Apply is done, and what comes out: the object, whether it is another one, and, with force, the conflicts.
func (x *line) gets(manager, config string, changed bool, want string, conflicts ...string) {
	x.t.Helper()
	a := asked{example(), "T", x.o, x.there, manager, read(config)}
	got, e := checkApply(x.t, a, len(conflicts) > 0)
	if e != api.OK || told(got.object) != want || got.changed != changed || clashes(got.conflicts) != strings.Join(conflicts, "; ") {
		x.t.Errorf("P16.3: %s applies %s: %s, %v, [%s], %d", manager, config, told(got.object), got.changed, clashes(got.conflicts), e)
	}
	x.o, x.there = got.object, true
}

// collides holds that an Apply is refused by conflicts.
func (x *line) collides(manager, config string, conflicts ...string) {
	x.t.Helper()
	got, e := checkApply(x.t, asked{example(), "T", x.o, x.there, manager, read(config)}, false)
	if e != api.ErrConflict || !same(got.object, api.Object{}) || got.changed || clashes(got.conflicts) != strings.Join(conflicts, "; ") {
		x.t.Errorf("P16.3: %s applies %s: %s, %v, [%s], %d", manager, config, told(got.object), got.changed, clashes(got.conflicts), e)
	}
}

// The chapter's examples.
func TestExamples(t *testing.T) {
	x := &line{t: t}
	x.gets("m", `{"a":1}`, true, `{"a":1}; m/apply: .a`)
	x.gets("m", `{"a":1}`, false, `{"a":1}; m/apply: .a`)
	x.gets("n", `{"a":1}`, true, `{"a":1}; m/apply: .a; n/apply: .a`)
	x.collides("n", `{"a":2}`, "m/apply: .a")
	x.gets("n", `{"a":2}`, true, `{"a":2}; n/apply: .a`, "m/apply: .a")

	x = &line{t: t}
	x.gets("m", `{"l":[{"id":1,"x":"q"}]}`, true, `{"l":[{"id":1,"x":"q"}]}; m/apply: .l[id=1] .l[id=1].x`)
	alone := *x
	x.gets("n", `{"l":[{"id":1}]}`, true, `{"l":[{"id":1,"x":"q"}]}; m/apply: .l[id=1] .l[id=1].x; n/apply: .l[id=1]`)
	if p, e := checkGivesUp(t, to("T", x.o, "m", `{}`)); e != api.OK || texts(p.given) != ".l[id=1] .l[id=1].x" || texts(p.going) != ".l[id=1].x" {
		t.Errorf("P16.2: %s; %s; %d", texts(p.given), texts(p.going), e)
	}
	x.gets("m", `{}`, true, `{"l":[{"id":1}]}; n/apply: .l[id=1]`)
	alone.gets("m", `{}`, true, `{}`)

	x = &line{t: t, there: true, o: of(`{"l":[{"id":1,"x":"q"}]}`, entry("m", applied, ".l[id=1]"), entry("n", updated, ".l[id=1].x"))}
	x.gets("m", `{}`, true, `{"l":[{"id":1,"x":"q"}]}; n/update: .l[id=1].x`)
	if free, e := record.Free(example(), "T", x.o); e != api.OK || texts(free) != ".l[id=1]" {
		t.Errorf("P16.3: without an owner: %s, %d", texts(free), e)
	}

	x = &line{t: t, there: true, o: of(`{"a":5}`, entry("m", updated, ".a"))}
	x.gets("m", `{"a":6}`, true, `{"a":6}; m/apply: .a`)

	x = &line{t: t}
	x.gets("m", `{}`, true, `{}`)
	x = &line{t: t, there: true, o: of(`{"s":["p"]}`, entry("n", updated, `.s[="p"]`))}
	x.gets("m", `{"s":["p"]}`, true, `{"s":["p"]}; m/apply: .s[="p"]; n/update: .s[="p"]`)
	x = &line{t: t}
	x.gets("m", `{"a":null}`, true, `{}`)
	for _, c := range []struct {
		manager, config string
		e               api.Errno
	}{{"", `{}`, api.ErrName}, {"m", `{"b":1}`, api.ErrField}} {
		if got, e := checkApply(t, fresh("T", c.manager, c.config), false); e != c.e || !same(got, outcome{}) {
			t.Errorf("P16.3: %q applies %s: %s, %d", c.manager, c.config, tell(got), e)
		}
	}

	x = &line{t: t, there: true, o: of(`{"a":1}`, many(64, ".a")...)}
	if got, e := checkApply(t, to("T", x.o, "other", `{"a":1}`), false); e != api.ErrManagers || !same(got, outcome{}) {
		t.Errorf("P16.3: a 65th manager: %s, %d", tell(got), e)
	}
	got, e := checkApply(t, to("T", x.o, "other", `{"a":2}`), true)
	if e != api.OK || told(got.object) != `{"a":2}; other/apply: .a` || len(got.conflicts) != 64 || !got.changed {
		t.Errorf("P16.3: a 65th manager with force: %s, %d conflicts, %d", told(got.object), len(got.conflicts), e)
	}
}

// many is entries by apply of so many managers.
func many(n int, paths ...string) []api.Entry {
	var l []api.Entry
	for i := range n {
		l = append(l, entry(fmt.Sprintf("m%03d", i), applied, paths...))
	}
	return l
}

// nested is a value with elements of keyed lists within elements, and things that are atomic.
const nested = `{"b":true,"ma":{"k":1},"n":[{"at":{"l":[],"u":1},"b":false,"id":1,"m":{"k":"v"},"n":[{"b":false,"id":2,"s":["p"]},{"b":true,"id":2}],"s":["q"]}]}`

const (
	one = ".n[b=false,id=1]"
	two = ".n[b=false,id=1].n[b=false,id=2]"
)

func TestConflicts(t *testing.T) {
	full := of(`{"a":1,"l":[{"id":1,"x":"q"},{"id":2}],"m":{"j":"","k":"v"},"s":["p"],"w":[1,2]}`,
		entry("j", updated, ".l[id=1].x", ".m.k", ".w"), entry("m", applied, ".a", ".l[id=1]", ".l[id=1].x", `.s[="p"]`, ".w"), entry("m", updated, ".l[id=2]", ".m.k"), entry("n", applied, ".a"), entry("n", updated, ".w"))
	deep := of(nested, entry("m", applied, ".b", ".ma", one, one+".at", two, two+`.s[="p"]`), entry("n", updated, one+".m.k"))
	for i, c := range []struct {
		a    asked
		want string
	}{
		{fresh("T", "x", `{"a":1}`), ""},
		{to("T", full, "x", `{}`), ""},
		{to("T", full, "x", `{"a":1,"l":[{"id":2},{"id":1,"x":"q"}],"m":{"j":"","k":"v"},"s":["p"],"w":[1,2]}`), ""}, // what is there already
		{to("T", full, "x", `{"a":null,"m":{"k":null},"w":null}`), ""},
		{to("T", full, "x", `{"a":2}`), "m/apply: .a; n/apply: .a"},
		{to("T", full, "m", `{"a":2}`), "n/apply: .a"},
		{to("T", full, "n", `{"a":2}`), "m/apply: .a"},
		{to("T", full, "m", `{"w":[2,1]}`), "j/update: .w; n/update: .w"},
		{to("T", full, "x", `{"w":[]}`), "j/update: .w; m/apply: .w; n/update: .w"},
		{to("T", full, "x", `{"w":[1,2,3]}`), "j/update: .w; m/apply: .w; n/update: .w"},
		{to("T", full, "x", `{"m":{"j":"x"}}`), ""}, // nobody's
		{to("T", full, "x", `{"m":{"i":"x","k":"w"}}`), "j/update: .m.k; m/update: .m.k"},
		{to("T", full, "m", `{"m":{"k":"w"}}`), "j/update: .m.k"},
		{to("T", full, "x", `{"s":["p","q"]}`), ""},
		{to("T", full, "x", `{"l":[{"id":1},{"id":3,"x":"y"}]}`), ""},
		{to("T", full, "x", `{"l":[{"id":2,"x":"y"},{"id":1,"x":"y"}]}`), "j/update: .l[id=1].x; m/apply: .l[id=1].x"},
		{to("T", full, "x", `{"w":[3],"m":{"k":""},"l":[{"id":1,"x":""}],"a":-1}`), "m/apply: .a; n/apply: .a; j/update: .l[id=1].x; m/apply: .l[id=1].x; j/update: .m.k; m/update: .m.k; j/update: .w; m/apply: .w; n/update: .w"},
		{to("N", deep, "x", `{"b":false,"ma":{"k":1,"z":null},"n":[{"b":false,"id":1}]}`), "m/apply: .b"},
		{to("N", deep, "x", `{"ma":{}}`), "m/apply: .ma"},
		{to("N", deep, "x", `{"ma":{"j":1}}`), "m/apply: .ma"},
		{to("N", deep, "x", `{"n":[{"b":false,"id":1,"at":{"l":[],"u":1}}]}`), ""},
		{to("N", deep, "x", `{"n":[{"b":false,"id":1,"at":{"u":1}}]}`), "m/apply: " + one + ".at"}, // within what is atomic the empty list counts
		{to("N", deep, "x", `{"n":[{"b":false,"id":1,"m":{"k":"w"},"at":{}}]}`), "m/apply: " + one + ".at; n/update: " + one + ".m.k"},
		{to("N", deep, "x", `{"n":[{"b":true,"id":1,"at":{}}]}`), ""}, // another element
		{to("int", of(`5`, entry("m", applied, ""), entry("n", updated, "")), "x", `6`), "m/apply: ; n/update: "},
		{to("int", of(`5`, entry("m", applied, ""), entry("n", updated, "")), "x", `5`), ""},
		{to("int", of(`5`, entry("m", applied, ""), entry("n", updated, "")), "n", `6`), "m/apply: "},
		{to("W", of(`[1]`, entry("m", applied, "")), "n", `[]`), "m/apply: "},
		{to("S", of(`["p"]`, entry("m", applied, `[="p"]`)), "n", `["q"]`), ""},
		{to("L", of(`[{"id":1,"x":""}]`, entry("m", applied, "[id=1]", "[id=1].x")), "n", `[{"id":1,"x":"q"}]`), "m/apply: [id=1].x"},
		{to("Other", full, "x", `{"a":2}`), "m/apply: .a; n/apply: .a"},
	} {
		l, e := checkConflicts(t, c.a)
		if e != api.OK || clashes(l) != c.want {
			t.Errorf("P16.1: the case %d: [%s], %d, want [%s]", i, clashes(l), e, c.want)
		}
		checkLaws(t, c.a)
	}
}

func TestGivesUp(t *testing.T) {
	const v = `{"a":1,"l":[{"id":1,"x":"q"},{"id":2,"x":""}],"s":["p","q"]}`
	all := ".a .l[id=1] .l[id=1].x .l[id=2] .l[id=2].x .s[=\"p\"] .s[=\"q\"]"
	m := func(paths ...string) api.Entry { return entry("m", applied, paths...) }
	for i, c := range []struct {
		a            asked
		given, going string
	}{
		{fresh("T", "m", v), "", ""},
		{fresh("T", "m", `{}`), "", ""},
		{to("T", of(v), "m", `{}`), "", ""}, // what nobody has nobody gives up
		{to("T", of(v, m(".a")), "n", `{}`), "", ""},
		{to("T", of(v, m(".a")), "m", `{"a":1}`), "", ""},
		{to("T", of(v, m(".a")), "m", `{"a":2}`), "", ""}, // another value is said still
		{to("T", of(v, m(".a")), "m", `{"a":null}`), ".a", ".a"},
		{to("T", of(v, entry("m", updated, ".a")), "m", `{}`), "", ""}, // by update nothing is said
		{to("T", of(v, m(strings.Fields(all)...)), "m", `{}`), all, all},
		{to("T", of(v, m(strings.Fields(all)...)), "m", v), "", ""},
		{to("T", of(v, m(strings.Fields(all)...)), "m", `{"l":[{"id":2},{"id":1,"x":"r"}],"s":["q"]}`), `.a .l[id=2].x .s[="p"]`, `.a .l[id=2].x .s[="p"]`},
		// others who have it, or something below
		{to("T", of(v, m(".a"), entry("n", applied, ".a")), "m", `{}`), ".a", ""},
		{to("T", of(v, m(".a"), entry("n", updated, ".a")), "m", `{}`), ".a", ""},
		{to("T", of(v, entry("l", updated, ".a"), m(".a")), "m", `{}`), ".a", ""},
		{to("T", of(v, m(".l[id=1]", ".l[id=1].x"), entry("n", applied, ".l[id=1]")), "m", `{}`), ".l[id=1] .l[id=1].x", ".l[id=1].x"},
		{to("T", of(v, m(".l[id=1]", ".l[id=1].x"), entry("n", updated, ".l[id=1].x")), "m", `{}`), ".l[id=1] .l[id=1].x", ""},
		{to("T", of(v, m(".l[id=1]", ".l[id=1].x"), entry("n", updated, ".l[id=2].x")), "m", `{}`), ".l[id=1] .l[id=1].x", ".l[id=1] .l[id=1].x"},
		{to("T", of(v, m(".l[id=1]", ".l[id=1].x"), entry("n", updated, ".l[id=1].x")), "m", `{"l":[{"id":1}]}`), ".l[id=1].x", ""},
		{to("T", of(v, m(".l[id=1]", ".l[id=1].x"), entry("n", updated, ".l[id=1]")), "m", `{"l":[{"id":1}]}`), ".l[id=1].x", ".l[id=1].x"},
		// what lies below goes with it: nobody's, or the manager's own by update
		{to("T", of(v, m(".l[id=1]")), "m", `{}`), ".l[id=1]", ".l[id=1] .l[id=1].x"},
		{to("T", of(v, m(".l[id=1]"), entry("m", updated, ".l[id=1].x")), "m", `{}`), ".l[id=1]", ".l[id=1] .l[id=1].x"},
		{to("T", of(v, m(".a"), entry("m", updated, ".l[id=1]", ".l[id=1].x")), "m", `{}`), ".a", ".a"},
		// in spite of conflicts
		{to("T", of(v, m(".a", ".l[id=1]"), entry("n", applied, ".a", ".l[id=1]")), "m", `{"a":2}`), ".l[id=1]", ""},
		{to("T", of(v, m(".l[id=1]", ".l[id=1].x", ".l[id=2]"), entry("n", updated, ".l[id=1].x", ".l[id=2].x")), "m", `{"l":[{"id":1,"x":"r"}]}`), ".l[id=2]", ""},
		// elements within elements
		{to("N", of(nested, m(".b", one, one+".at", two, two+`.s[="p"]`)), "m", `{"n":[{"b":false,"id":1}]}`), ".b " + one + ".at " + two + " " + two + `.s[="p"]`, ".b " + one + ".at " + two + " " + two + `.s[="p"]`},
		{to("N", of(nested, m(one)), "m", `{}`), one, strings.Join([]string{one, one + ".at", one + ".m.k", two, two + `.s[="p"]`, one + ".n[b=true,id=2]", one + `.s[="q"]`}, " ")},
		{to("N", of(nested, m(one, two), entry("n", updated, two+`.s[="p"]`)), "m", `{}`), one + " " + two, ""},
		{to("N", of(nested, m(one, two, two+`.s[="p"]`), entry("n", updated, two)), "m", `{}`), one + " " + two + " " + two + `.s[="p"]`, two + `.s[="p"]`},
		{to("N", of(nested, m(one, two), entry("n", updated, one+".n[b=true,id=2]")), "m", `{}`), one + " " + two, two + " " + two + `.s[="p"]`},
		// roots
		{to("S", of(`["p","q"]`, m(`[="p"]`)), "m", `[]`), `[="p"]`, `[="p"]`},
		{to("L", of(`[{"id":1,"x":""}]`, m("[id=1]")), "m", `[]`), "[id=1]", "[id=1] [id=1].x"},
		{to("int", of(`5`, m("")), "m", `6`), "", ""},
		{to("At", of(`{"u":1}`, m("")), "m", `{}`), "", ""},
	} {
		p, e := checkGivesUp(t, c.a)
		if e != api.OK || texts(p.given) != c.given || texts(p.going) != c.going {
			t.Errorf("P16.2: the case %d: %s; %s; %d, want %s; %s", i, texts(p.given), texts(p.going), e, c.given, c.going)
		}
		checkLaws(t, c.a)
	}
}

func TestApply(t *testing.T) {
	for i, c := range []struct {
		a       asked
		want    string
		changed bool
	}{
		{fresh("T", "m", `{"s":["q","p"],"m":{},"w":[],"a":null}`), `{"s":["p","q"],"w":[]}; m/apply: .s[="p"] .s[="q"] .w`, true},
		{fresh("int", "m", `5`), `5; m/apply: `, true},
		{fresh("S", "m", `[]`), `[]`, true},
		{fresh("N", strings.Repeat("m", 64), `{}`), `{}`, true},
		{to("T", of(`{}`), "m", `{}`), `{}`, false},
		{to("T", of(`{}`), "m", `{"m":{"k":null}}`), `{}`, false},
		{to("T", of(`{"a":1}`), "m", `{}`), `{"a":1}`, false},                                             // what nobody has stays
		{to("T", of(`{"a":1}`), "m", `{"a":1}`), `{"a":1}; m/apply: .a`, true},                            // the entries alone are others
		{to("T", of(`{"a":1}`, entry("m", applied, ".a")), "m", `{"a":2}`), `{"a":2}; m/apply: .a`, true}, // the value alone
		{to("T", of(`{"a":1}`), "m", `{"a":2}`), `{"a":2}; m/apply: .a`, true},
		{to("T", of(`{"a":1}`, entry("n", applied, ".a")), "m", `{}`), `{"a":1}; n/apply: .a`, false},
		{to("T", of(`{"a":1}`, entry("m", applied, ".a"), entry("n", applied, ".a")), "m", `{}`), `{"a":1}; n/apply: .a`, true},
		{to("T", of(`{"a":1}`, entry("m", applied, ".a")), "m", `{}`), `{}`, true},
		{to("T", of(`{"a":1,"m":{"j":"","k":""}}`, entry("m", updated, ".a", ".m.j", ".m.k")), "m", `{"m":{"k":""}}`), `{"a":1,"m":{"j":"","k":""}}; m/apply: .m.k; m/update: .a .m.j`, true},
		{to("T", of(`{"a":1,"m":{"j":""}}`, entry("m", applied, ".a"), entry("m", updated, ".m.j")), "m", `{"m":{"j":"x"}}`), `{"m":{"j":"x"}}; m/apply: .m.j`, true},
		{to("T", of(`{"l":[{"id":1,"x":"q"}]}`, entry("m", applied, ".l[id=1]"), entry("m", updated, ".l[id=1].x")), "m", `{"l":[{"id":1}]}`), `{"l":[{"id":1,"x":"q"}]}; m/apply: .l[id=1]; m/update: .l[id=1].x`, false},
		{to("T", of(`{"a":1,"l":[{"id":1,"x":"q"}]}`, entry("m", applied, ".l[id=1]"), entry("m", updated, ".a", ".l[id=1].x")), "m", `{}`), `{"a":1}; m/update: .a`, true},
		{to("T", of(`{"l":[{"id":1,"x":"q"}]}`, entry("m", applied, ".l[id=1]", ".l[id=1].x"), entry("n", applied, ".l[id=1]")), "m", `{"l":[{"id":2}]}`), `{"l":[{"id":1},{"id":2}]}; m/apply: .l[id=2]; n/apply: .l[id=1]`, true},
		{to("T", of(`{"m":{"k":"v"}}`, entry("m", applied, ".m.k")), "m", `{"a":1}`), `{"a":1}; m/apply: .a`, true}, // the map goes with the last of it
		{to("S", of(`["p"]`, entry("m", applied, `[="p"]`)), "m", `[]`), `[]`, true},
		{to("S", of(`["p"]`, entry("m", applied, `[="p"]`)), "m", `["o","q"]`), `["o","q"]; m/apply: [="o"] [="q"]`, true},
		{to("T", of(`{"a":1}`, entry("a", applied, ".a"), entry("z", applied, ".a")), "m", `{"a":1}`), `{"a":1}; a/apply: .a; m/apply: .a; z/apply: .a`, true}, // at its place
		{to("T", of(`{"l":[{"id":1,"x":"q"}]}`, entry("n", updated, ".l[id=1]")), "m", `{"l":[{"id":1,"x":"r"}]}`), `{"l":[{"id":1,"x":"r"}]}; m/apply: .l[id=1] .l[id=1].x; n/update: .l[id=1]`, true},
	} {
		got, e := checkApply(t, c.a, false)
		if e != api.OK || told(got.object) != c.want || got.changed != c.changed || len(got.conflicts) > 0 {
			t.Errorf("P16.3: the case %d: %s, %v, %d, want %s, %v", i, told(got.object), got.changed, e, c.want, c.changed)
		}
		checkLaws(t, c.a)
	}
}

// With force each loses what it had a conflict at, and nothing else; own entries are no others'.
func TestForce(t *testing.T) {
	x := &line{t: t, there: true, o: of(`{"a":1,"l":[{"id":1,"x":"q"}],"w":[1]}`, entry("j", applied, ".a", ".l[id=1]", ".l[id=1].x"), entry("j", updated, ".w"), entry("m", updated, ".a"), entry("n", updated, ".l[id=1].x"))}
	x.collides("m", `{"a":2,"l":[{"id":1,"x":"r"}],"w":[1]}`, "j/apply: .a", "j/apply: .l[id=1].x", "n/update: .l[id=1].x")
	x.gets("m", `{"a":2,"l":[{"id":1,"x":"r"}],"w":[1]}`, true, `{"a":2,"l":[{"id":1,"x":"r"}],"w":[1]}; j/apply: .l[id=1]; j/update: .w; m/apply: .a .l[id=1] .l[id=1].x .w`, "j/apply: .a", "j/apply: .l[id=1].x", "n/update: .l[id=1].x")
	x.collides("j", `{"a":3}`, "m/apply: .a")
	x.gets("j", `{"a":3}`, true, `{"a":3,"l":[{"id":1,"x":"r"}],"w":[1]}; j/apply: .a; j/update: .w; m/apply: .l[id=1] .l[id=1].x .w`, "m/apply: .a")
	x.gets("m", `{"a":3}`, true, `{"a":3,"w":[1]}; j/apply: .a; j/update: .w; m/apply: .a`)
	x.gets("n", `{"w":[]}`, true, `{"a":3,"w":[]}; j/apply: .a; m/apply: .a; n/apply: .w`, "j/update: .w")
}

// Every choice of what is wrong: the first in the chapter's order is told, with nothing beside it but conflicts.
func TestOrderOfErrors(t *testing.T) {
	large := strings.Repeat("a", api.MaxText*2/3)
	v := object(at("a", num(1)), at("m", object(at("k", text(large)))))
	sound := api.Object{Value: v, Entries: many(64, ".a", ".m.k")}
	faults := []api.Errno{api.ErrSchemaName, api.ErrSchemaRef, api.ErrRecord, api.ErrName, api.ErrField, api.ErrConflict, api.ErrBytes, api.ErrManagers}
	for bits := range 1 << len(faults) {
		has := func(e api.Errno) bool { return bits>>slices.Index(faults, e)&1 == 1 }
		a := asked{example(), "T", sound, true, "other", object(at("a", num(1)))}
		if has(api.ErrSchemaName) {
			a.s = broken()
		}
		if has(api.ErrSchemaRef) {
			a.typ = "Nix"
		}
		if has(api.ErrConflict) {
			a.config.Map[0].Val = num(2)
		}
		if has(api.ErrBytes) {
			a.config.Map = append(a.config.Map, at("m", object(at("j", text(large)))))
		}
		if has(api.ErrField) {
			a.config.Map = append(a.config.Map, at("z", null))
		}
		if !has(api.ErrManagers) {
			a.o.Entries = sound.Entries[:63]
		}
		if has(api.ErrRecord) {
			a.o.Entries = append(slices.Clone(a.o.Entries[:62]), entry("n", applied, ".w"))
		}
		if has(api.ErrName) {
			a.manager = ""
		}
		want := api.OK
		for _, e := range faults {
			if has(e) {
				want = e
				break
			}
		}
		got, e := checkApply(t, a, false)
		if e != want || e != api.OK && (!same(got.object, api.Object{}) || got.changed) || (e == api.ErrConflict) != (len(got.conflicts) > 0) {
			t.Fatalf("P16.3: with the faults %b: %d, want %d", bits, e, want)
		}
		if want >= api.ErrConflict || want == api.ErrBytes || want == api.ErrManagers {
			want = api.OK // what comes out is not asked
		}
		l, e := checkConflicts(t, a)
		p, f := checkGivesUp(t, a)
		if e != want || f != want || e != api.OK && (len(l) > 0 || !same(p, parting{})) {
			t.Fatalf("P16.1, P16.2: with the faults %b: %d, %d, want %d", bits, e, f, want)
		}
	}
}

// The errors of the layers below, as they are.
func TestErrors(t *testing.T) {
	object := of(`{"a":1}`, entry("m", applied, ".a"))
	for i, c := range []struct {
		a asked
		e api.Errno
	}{
		{asked{api.Schema{Types: []api.Type{{}}}, "T", object, true, "m", read(`{}`)}, api.ErrSchemaName},
		{asked{api.Schema{}, "T", object, true, "m", read(`{}`)}, api.ErrSchemaRef},
		{asked{api.Schema{Types: []api.Type{{Name: "A", Kind: api.TypeName, Elem: "A"}}}, "A", object, false, "m", read(`{}`)}, api.ErrSchemaLoop},
		{fresh("", "m", `{}`), api.ErrSchemaRef},
		{fresh("t", "m", `{}`), api.ErrSchemaRef}, // a kind is no type
		{to("T", of(`{"a":1}`, entry("m", applied, ".b")), "m", `{}`), api.ErrRecord},
		{to("T", of(`{"l":[{"id":1,"x":""}]}`, entry("n", applied, ".l[id=1].x")), "m", `{}`), api.ErrRecord},
		{to("T", of(`{"m":{}}`), "m", `{}`), api.ErrLeaf},
		{to("T", of(`{"b":1}`), "m", `{}`), api.ErrField},
		{to("T", of(`5`), "m", `{}`), api.ErrShape},
		{to("T", of(`null`), "m", `{}`), api.ErrNull},
		{to("T", api.Object{}, "m", `{}`), api.ErrNull},
		{to("T", api.Object{Value: api.Value{Kind: 9}}, "m", `{}`), api.ErrValue},
		{to("T", of(`{"a":1}`, entry("", applied, ".a")), "m", `{}`), api.ErrName},
		{to("T", of(`{"a":1}`, entry("m", 3, ".a")), "m", `{}`), api.ErrEntries},
		{to("T", of(`{"a":1}`, entry("m", applied)), "m", `{}`), api.ErrEntries},
		{to("T", of(`{"a":1}`, entry("m", applied, ".a"), entry("m", updated, ".a")), "m", `{}`), api.ErrEntries},
		{to("T", of(`{"a":1}`, entry("m", applied, ".a", ".a")), "m", `{}`), api.ErrSet},
		{to("T", of(`{"a":1}`, api.Entry{Manager: "m", Way: applied, Fields: []api.Path{{{}}}}), "m", `{}`), api.ErrPath},
		{to("T", of(`{"a":1}`, many(65, ".a")...), "m", `{}`), api.ErrManagers}, // ahead of it
		{to("T", of(`{"a":1}`, many(65, ".a")...), "m", `{"a":2}`), api.ErrManagers},
		{to("T", object, "", `{}`), api.ErrName},
		{to("T", object, "\xff", `{}`), api.ErrName},
		{to("T", object, "m\xed\xa0\x80", `{}`), api.ErrName},
		{to("T", object, strings.Repeat("m", 65), `{}`), api.ErrName},
		{to("T", object, strings.Repeat("\u00e9", 33), `{}`), api.ErrName}, // bytes, not letters
		{to("T", object, "m", `null`), api.ErrNull},
		{to("T", object, "m", `[]`), api.ErrShape},
		{to("T", object, "m", `{"a":"1"}`), api.ErrShape},
		{to("T", object, "m", `{"b":null}`), api.ErrField},
		{to("T", object, "m", `{"s":["p","p"]}`), api.ErrTwice},
		{to("T", object, "m", `{"l":[{"x":""}]}`), api.ErrKey},
		{to("T", object, "m", `{"s":[null]}`), api.ErrNull},
		{asked{example(), "T", object, true, "m", api.Value{Kind: api.Str, Str: "\xff"}}, api.ErrValue},
		{asked{example(), "Tree", api.Object{}, false, "m", tree(33)}, api.ErrDeep},
		{asked{example(), "S", api.Object{}, false, "m", list(make([]api.Value, 65536)...)}, api.ErrNodes},
	} {
		for _, force := range []bool{false, true} {
			if got, e := checkApply(t, c.a, force); e != c.e || !same(got, outcome{}) {
				t.Errorf("P16.3: the case %d: %s, %d, want %d", i, tell(got), e, c.e)
			}
		}
		l, e := checkConflicts(t, c.a)
		p, f := checkGivesUp(t, c.a)
		if e != c.e || f != c.e || len(l) > 0 || !same(p, parting{}) {
			t.Errorf("P16.1, P16.2: the case %d: %d, %d, want %d", i, e, f, c.e)
		}
	}
	for _, name := range []string{"m", " ", "\x00", "/", strings.Repeat("m", 64), strings.Repeat("\u00e9", 32)} {
		if _, e := checkApply(t, to("T", object, name, `{}`), false); e != api.OK {
			t.Errorf("P16.3: the name %q: %d", name, e)
		}
	}
}

// tree is a value of the type Tree, so deep.
func tree(depth int) api.Value {
	v := object()
	for range depth {
		v = object(at("k", v))
	}
	return v
}

// What is handed in as an object that is not there is not looked at.
func TestNotThere(t *testing.T) {
	endless := list(null)
	endless.List[0] = endless
	for i, o := range []api.Object{
		{},
		of(`{"a":1}`, entry("n", applied, ".a")),
		of(`{"a":1}`, entry("m", applied, ".a")),
		of(`{"b":5}`, entry("", 7, ".b", ".a")),
		{Value: endless, Entries: []api.Entry{{Manager: "n", Way: applied, Fields: []api.Path{{item(endless)}}}}},
		of(`{}`, many(65, ".a")...),
	} {
		o, changed, l, e := Apply(example(), "T", o, false, "m", read(`{"a":2}`), false)
		if e != api.OK || told(o) != `{"a":2}; m/apply: .a` || !changed || len(l) != 0 {
			t.Errorf("P16.3: the case %d: %s, %v, %d, %d", i, tell(o), changed, len(l), e)
		}
		l, e = Conflicts(example(), "T", o, false, "m", read(`{"a":3}`))
		given, going, f := GivesUp(example(), "T", o, false, "m", read(`{}`))
		if e != api.OK || f != api.OK || len(l)+len(given)+len(going) != 0 {
			t.Errorf("P16.1, P16.2: the case %d: %d, %d", i, e, f)
		}
	}
}

// What comes out may be too large, by values or by bytes; so may it be just not.
func TestTooLarge(t *testing.T) {
	letters := func(k string, n int) api.Value { return object(at("m", object(at(k, text(strings.Repeat("a", n)))))) }
	numbers := func(n int) api.Value { return object(at("w", list(make([]api.Value, n)...))) }
	live := numbers(30000)
	for i := range live.Map[0].Val.List {
		live.Map[0].Val.List[i] = num(i)
	}
	members := func(n int) api.Value {
		v := object()
		for i := range n {
			v.Map = append(v.Map, at(fmt.Sprintf("%05d", i), text("")))
		}
		return object(at("m", v))
	}
	half := api.MaxText / 2
	for i, c := range []struct {
		live, config api.Value
		m            []api.Entry
		e            api.Errno
	}{
		{letters("j", half-3), letters("k", half-1), nil, api.OK}, // the keys m, j and k
		{letters("j", half-2), letters("k", half-1), nil, api.OK},
		{letters("j", half-1), letters("k", half-1), nil, api.ErrBytes},
		{letters("j", half-1), letters("k", half-1), []api.Entry{entry("m", applied, ".m.j")}, api.OK}, // what goes makes room
		{letters("j", half-1), letters("k", half-1), []api.Entry{entry("m", applied, ".m.j"), entry("n", applied, ".m.j")}, api.ErrBytes},
		{letters("j", half*2-3), letters("j", half*2-2), nil, api.OK},
		{live, members(65536 - 30003), nil, api.OK},
		{live, members(65536 - 30002), nil, api.ErrNodes},
		{live, members(65536 - 30002), []api.Entry{entry("m", applied, ".w")}, api.OK},
	} {
		for _, force := range []bool{false, true} {
			a := asked{example(), "T", api.Object{Value: c.live, Entries: c.m}, true, "m", c.config}
			got, e := checkApply(t, a, force)
			if e != c.e || e != api.OK && !same(got, outcome{}) {
				t.Errorf("P16.3: the case %d: %d, want %d", i, e, c.e)
			}
			if e == api.OK && record.Check(a.s, a.typ, got.object) != api.OK {
				t.Errorf("P16.4: the case %d is not sound", i)
			}
		}
	}
}

// Entries are counted when all is done.
func TestManagers(t *testing.T) {
	both := append(many(63, ".a"), entry("n", applied, ".a"), entry("n", updated, ".w"))
	for i, c := range []struct {
		o       api.Object
		manager string
		config  string
		force   bool
		entries int // 0: too many
	}{
		{of(`{"a":1,"w":[]}`, many(64, ".a")...), "x", `{}`, false, 64},
		{of(`{"a":1,"w":[]}`, many(64, ".a")...), "x", `{"w":[]}`, false, 0},
		{of(`{"a":1,"w":[]}`, many(64, ".a")...), "x", `{"w":[1]}`, true, 0},
		{of(`{"a":1,"w":[]}`, many(63, ".a")...), "x", `{"w":[1]}`, false, 64},
		{of(`{"a":1,"w":[]}`, many(64, ".a", ".w")...), "x", `{"w":[1]}`, true, 0}, // they lose some, not all
		{of(`{"a":1,"w":[]}`, many(64, ".a", ".w")...), "x", `{"a":2,"w":[1]}`, true, 1},
		{of(`{"a":1,"w":[]}`, append(many(63, ".a"), entry("n", applied, ".w"))...), "x", `{"w":[1]}`, true, 64}, // one goes, one comes
		{of(`{"a":1,"w":[]}`, many(64, ".a")...), "m000", `{"w":[1]}`, false, 64},
		{of(`{"a":1,"w":[]}`, append(many(63, ".a"), entry("n", updated, ".a", ".w"))...), "n", `{"w":[1]}`, false, 0}, // one manager has two
		{of(`{"a":1,"w":[]}`, append(many(63, ".a"), entry("n", updated, ".w"))...), "n", `{"w":[1]}`, false, 64},      // its own goes
		{of(`{"a":1,"w":[]}`, both[1:]...), "n", `{}`, false, 63},
		{of(`{"a":1,"w":[]}`, both[1:]...), "n", `{"w":[]}`, false, 63},
		{of(`{"a":1,"w":[]}`, both[1:]...), "n", `{"a":3}`, true, 2},
	} {
		a := to("T", c.o, c.manager, c.config)
		got, e := checkApply(t, a, c.force)
		if c.entries == 0 {
			if e != api.ErrManagers || !same(got, outcome{}) {
				t.Errorf("P16.3: the case %d: %s, %d", i, told(got.object), e)
			}
			continue
		}
		if e != api.OK || len(got.object.Entries) != c.entries {
			t.Errorf("P16.3: the case %d: %d entries, %d", i, len(got.object.Entries), e)
		}
		checkLaws(t, a)
	}
}

// The deepest that may be.
func TestDepth(t *testing.T) {
	v := object(at("k", text("")))
	s := api.Schema{Types: []api.Type{{Name: "M00", Kind: api.TypeMap, Elem: "string"}}}
	for i := range 31 {
		name := fmt.Sprintf("M%02d", i+1)
		s.Types = append(s.Types, api.Type{Name: name, Kind: api.TypeMap, Elem: s.Types[i].Name})
		v = object(at("k", v))
	}
	if value.Depth(v) != 32 {
		t.Fatalf("a value %d deep", value.Depth(v))
	}
	a := asked{s, "M31", api.Object{}, false, "m", v}
	got, e := checkApply(t, a, false)
	if e != api.OK || len(got.object.Entries) != 1 || len(got.object.Entries[0].Fields[0]) != 32 {
		t.Fatalf("P16.3: the deepest value: %s, %d", tell(got), e)
	}
	a = asked{s, "M31", got.object, true, "m", object()}
	if got, e = checkApply(t, a, false); e != api.OK || told(got.object) != `{}` {
		t.Errorf("P16.3: the deepest value given up: %s, %d", told(got.object), e)
	}
	checkLaws(t, a)
}

// A value that lies within itself is none, but the calls end.
func TestEndless(t *testing.T) {
	v := list(null)
	v.List[0] = v
	m := object(at("k", null))
	m.Map[0].Val = m
	for i, c := range []struct {
		o      api.Object
		config api.Value
		e      api.Errno
	}{
		{of(`{}`), v, api.ErrDeep},
		{of(`{}`), m, api.ErrDeep},
		{api.Object{Value: v}, object(), api.ErrDeep},
		{api.Object{Value: m}, object(), api.ErrDeep},
		{api.Object{Value: object(), Entries: []api.Entry{{Manager: "m", Way: applied, Fields: []api.Path{{item(v)}}}}}, object(), api.ErrPath},
	} {
		_, e := Conflicts(example(), "Tree", c.o, true, "m", c.config)
		_, _, f := GivesUp(example(), "Tree", c.o, true, "m", c.config)
		_, _, _, g := Apply(example(), "Tree", c.o, true, "m", c.config, true)
		if e != c.e || f != c.e || g != c.e {
			t.Errorf("the case %d: %d, %d, %d, want %d", i, e, f, g, c.e)
		}
	}
}

// The config counts by its normal form.
func TestNormalForm(t *testing.T) {
	o := of(`{"l":[{"id":1,"x":"q"},{"id":2}],"s":["p","q"]}`, entry("m", applied, ".l[id=1]", ".l[id=1].x", ".l[id=2]", `.s[="p"]`, `.s[="q"]`))
	for _, config := range []string{
		`{"l":[{"id":1,"x":"q"},{"id":2}],"s":["p","q"]}`,
		`{"a":null,"l":[{"id":2,"x":null},{"id":1,"x":"q"}],"m":{},"s":["q","p"]}`,
		`{"l":[{"id":2},{"id":1,"x":"q"}],"m":{"k":null},"s":["q","p"],"w":null}`,
	} {
		got, e := checkApply(t, to("T", o, "m", config), false)
		if e != api.OK || got.changed || !same(got.object, o) || !validate.IsNormal(example(), "T", got.object.Value) {
			t.Errorf("P16.3: %s: %s, %v, %d", config, told(got.object), got.changed, e)
		}
	}
}
