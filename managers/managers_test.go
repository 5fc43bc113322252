package managers

import (
	"errors"
	"fmt"
	"slices"
	"strings"
	"testing"

	"freehold/api"
	"freehold/json"
	"freehold/value"
)

// three is the chapter's entries.
func three() []api.Entry {
	return []api.Entry{entry("a", api.ByApply, ".x", ".y"), entry("a", api.ByUpdate, ".z"), entry("b", api.ByApply, ".x")}
}

// many is so many entries of so many managers, each with the path .x.
func many(n int) []api.Entry {
	var l []api.Entry
	for i := range n {
		l = append(l, entry(fmt.Sprintf("m%05d", i), api.ByApply, ".x"))
	}
	return l
}

// pairwise is two entries for each of so many managers.
func pairwise(n int) []api.Entry {
	var l []api.Entry
	for _, x := range many(n) {
		l = append(l, x, entry(x.Manager, api.ByUpdate, ".y"))
	}
	return l
}

func TestCheck(t *testing.T) {
	wrong := api.Entry{Manager: "a", Way: api.ByApply, Fields: []api.Path{{{Kind: 9}}}}
	for i, c := range []struct {
		l []api.Entry
		e api.Errno
	}{
		{nil, api.OK},
		{[]api.Entry{}, api.OK},
		{three(), api.OK},
		{[]api.Entry{entry("a", 1, "")}, api.OK}, // the root is a path like others
		{[]api.Entry{entry("a", 2, "", ".x", ".x.y")}, api.OK},
		// names
		{[]api.Entry{entry("", 1, ".x")}, api.ErrName},
		{[]api.Entry{entry("\xff", 1, ".x")}, api.ErrName},
		{[]api.Entry{entry("a\xc3", 1, ".x")}, api.ErrName},
		{[]api.Entry{entry("\xed\xa0\x80", 1, ".x")}, api.ErrName},
		{[]api.Entry{entry("\x00", 1, ".x"), entry(" ", 1, ".x"), entry("\ufffd", 1, ".x")}, api.OK},
		{[]api.Entry{entry(strings.Repeat("m", 64), 1, ".x")}, api.OK},
		{[]api.Entry{entry(strings.Repeat("m", 65), 1, ".x")}, api.ErrName},
		{[]api.Entry{entry(strings.Repeat("\u00e9", 32), 1, ".x")}, api.OK},
		{[]api.Entry{entry(strings.Repeat("\u00e9", 32)+"a", 1, ".x")}, api.ErrName}, // its bytes count, not its letters
		// ways
		{[]api.Entry{entry("a", 0, ".x")}, api.ErrEntries},
		{[]api.Entry{entry("a", 3, ".x")}, api.ErrEntries},
		{[]api.Entry{entry("a", -1, ".x")}, api.ErrEntries},
		// no paths
		{[]api.Entry{entry("a", 1)}, api.ErrEntries},
		{[]api.Entry{{Manager: "a", Way: 1, Fields: []api.Path{}}}, api.ErrEntries},
		// the order
		{[]api.Entry{entry("a", 2, ".z"), entry("a", 1, ".x")}, api.ErrEntries},
		{[]api.Entry{entry("a", 1, ".x"), entry("a", 1, ".z")}, api.ErrEntries},
		{[]api.Entry{entry("a", 2, ".x"), entry("a", 2, ".z")}, api.ErrEntries},
		{[]api.Entry{entry("b", 1, ".x"), entry("a", 2, ".x")}, api.ErrEntries},
		{[]api.Entry{entry("a", 2, ".x"), entry("aa", 1, ".x"), entry("b", 1, ".x")}, api.OK},
		{[]api.Entry{entry("B", 1, ".x"), entry("a", 1, ".x"), entry("\u00e9", 1, ".x")}, api.OK},
		{[]api.Entry{entry("a", 1, ".x"), entry("b", 1, ".x"), entry("a", 2, ".z")}, api.ErrEntries},
		// the paths
		{[]api.Entry{wrong}, api.ErrPath},
		{[]api.Entry{entry("a", 1, ".y", ".x")}, api.ErrSet},
		{[]api.Entry{entry("a", 1, ".x", ".x")}, api.ErrSet},
		// paths in common
		{[]api.Entry{entry("a", 1, ".x"), entry("a", 2, ".x")}, api.ErrEntries},
		{[]api.Entry{entry("a", 1, ".a", ".x", ".z"), entry("a", 2, ".b", ".z")}, api.ErrEntries},
		{[]api.Entry{entry("a", 1, ""), entry("a", 2, "")}, api.ErrEntries},
		{[]api.Entry{entry("a", 1, ".x"), entry("a", 2, ".x.y")}, api.OK},
		{[]api.Entry{entry("a", 1, ".x"), entry("b", 1, ".x"), entry("b", 2, ".y"), entry("c", 2, ".x")}, api.OK},
		// of one entry: the name, the way and the place, the paths, what is in common
		{[]api.Entry{{Manager: "", Way: 9}}, api.ErrName},
		{[]api.Entry{{Manager: "\xff", Way: 1, Fields: wrong.Fields}}, api.ErrName},
		{[]api.Entry{entry("a", 1, ".x"), entry("", 1, ".x")}, api.ErrName}, // it does not stand behind the other, either
		{[]api.Entry{{Manager: "a", Way: 3, Fields: wrong.Fields}}, api.ErrEntries},
		{[]api.Entry{entry("b", 1, ".x"), wrong}, api.ErrEntries},
		{[]api.Entry{entry("b", 1, ".x"), entry("a", 1, ".y", ".x")}, api.ErrEntries},
		{[]api.Entry{entry("a", 1, ".x"), {Manager: "a", Way: 2, Fields: append(set(".x"), wrong.Fields...)}}, api.ErrPath},
		{[]api.Entry{entry("a", 1, ".x"), entry("a", 2, ".x", ".x")}, api.ErrSet},
		// the first entry at fault
		{[]api.Entry{wrong, entry("", 1, ".x")}, api.ErrPath},
		{[]api.Entry{entry("a", 3, ".x"), entry("", 1, ".x")}, api.ErrEntries},
		{[]api.Entry{entry("a", 1, ".y", ".x"), entry("a", 2, ".y")}, api.ErrSet},
		{[]api.Entry{entry("a", 1, ".x"), entry("a", 2, ".x"), entry("", 1, ".x")}, api.ErrEntries},
		// too many, behind all
		{many(64), api.OK},
		{many(65), api.ErrManagers},
		{many(5000), api.ErrManagers},
		{pairwise(32), api.OK},
		{pairwise(33), api.ErrManagers},
		{append(pairwise(32), entry("n", 2, ".x")), api.ErrManagers},
		{append(many(70), entry("", 1, ".x")), api.ErrName},
		{append(many(70), entry("n", 1)), api.ErrEntries},
		{append(many(70), entry("n", 1, ".y", ".x")), api.ErrSet},
		{append(many(70), entry("m00069", 2, ".x")), api.ErrEntries},
	} {
		if e := Check(c.l); e != c.e {
			t.Errorf("P14.1: the case %d: Check(%s) = %d, want %d", i, tell(c.l), e, c.e)
		}
		checkCheck(t, c.l)
		if c.e != api.OK {
			checkRefused(t, c.l, c.e)
		}
	}
}

// checkRefused holds what all calls answer to entries that may not be.
func checkRefused(t *testing.T, l []api.Entry, e api.Errno) {
	t.Helper()
	for _, x := range append(slices.Clone(l[max(0, len(l)-3):]), three()...) {
		if got := Get(l, x.Manager, x.Way); len(got) > 0 {
			t.Errorf("P14.2: Get of %s: %s", tell(l), tell(got))
		}
		for _, p := range x.Fields {
			if got := Owners(l, p); len(got) > 0 {
				t.Errorf("P14.2: Owners of %s: %s", tell(l), tell(got))
			}
		}
	}
	if got, f := All(l); f != e || got != nil {
		t.Errorf("P14.2: All of %s: %s, %d, want %d", tell(l), tell(got), f, e)
	}
	bad := []api.Path{{{Kind: 9}}} // what is wrong with l comes ahead of all else
	if got, f := With(l, "", 9, bad); f != e || got != nil {
		t.Errorf("P14.3: With of %s: %s, %d, want %d", tell(l), tell(got), f, e)
	}
	if got, f := With(l, "m00000", 1, nil); f != e || got != nil { // what would mend it does not
		t.Errorf("P14.3: With of %s: %s, %d, want %d", tell(l), tell(got), f, e)
	}
	if got, f := Lose(l, bad, api.Entry{}); f != e || got != nil {
		t.Errorf("P14.4: Lose of %s: %s, %d, want %d", tell(l), tell(got), f, e)
	}
	if v, f := Encode(l); f != e || !same(v, api.Value{}) {
		t.Errorf("P14.5: Encode of %s: %s, %d, want %d", tell(l), tell(v), f, e)
	}
}

// What is wrong inside is told with the entry in which it was met, and by its number at the face.
func TestPlace(t *testing.T) {
	name := entry("", 1, ".x")
	huge := api.Entry{Manager: "z", Way: 1, Fields: []api.Path{{field(strings.Repeat("x", 1048576))}}}
	_, encoded := valueOf(append(three(), huge))
	_, decoded := entriesOf(read(`[{"fields":{".x":{}},"manager":"b","way":"apply"},{"fields":{".x":1},"manager":"c","way":"apply"}]`))
	_, checked := entriesOf(read(`[{"fields":{".x":{}},"manager":"b","way":"apply"},{"fields":{".x":{}},"manager":"b","way":"apply"}]`))
	for i, c := range []struct {
		err error
		at  int
		e   api.Errno
	}{
		{mayBe([]api.Entry{name}), 0, api.ErrName},
		{mayBe(append(three(), name)), 3, api.ErrName},
		{mayBe(append(three(), entry("c", 1), name)), 3, api.ErrEntries},
		{mayBe(append(three(), entry("b", 2, ".x"))), 3, api.ErrEntries},
		{mayBe([]api.Entry{entry("a", 1, ".x"), entry("b", 1, ".y", ".x")}), 1, api.ErrSet},
		{mayBe(many(70)), 64, api.ErrManagers},
		{encoded, 3, api.ErrBytes},
		{decoded, 1, api.ErrFields},
		{checked, 1, api.ErrEntries},
	} {
		var where placed
		if !errors.As(c.err, &where) || where.entry != c.at || told(c.err) != c.e || told(where.err) != c.e {
			t.Errorf("the case %d: %v, want the entry %d, %d", i, c.err, c.at, c.e)
		}
		if c.err != nil && c.err.Error() != fmt.Sprintf("entry %d: fault %d", c.at, c.e) {
			t.Errorf("the case %d: %v", i, c.err)
		}
	}
	if told(nil) != api.OK || mayBe(three()) != nil {
		t.Error("an error where nothing is wrong")
	}
}

func TestGet(t *testing.T) {
	for _, c := range []struct {
		manager string
		way     int
		want    []api.Path
	}{
		{"a", api.ByApply, set(".x", ".y")},
		{"a", api.ByUpdate, set(".z")},
		{"b", api.ByApply, set(".x")},
		{"b", api.ByUpdate, nil},
		{"c", api.ByApply, nil},
		{"", api.ByApply, nil},
		{"aa", api.ByApply, nil},
		{"\xff", api.ByApply, nil},
		{strings.Repeat("m", 65), api.ByApply, nil},
		{"a", 0, nil},
		{"a", 3, nil},
		{"a", -1, nil},
	} {
		if got := Get(three(), c.manager, c.way); !same(got, c.want) {
			t.Errorf("P14.2: Get(%q, %d) = %s", c.manager, c.way, tell(got))
		}
	}
	if got := Get(nil, "a", api.ByApply); len(got) > 0 {
		t.Errorf("P14.2: Get of none: %s", tell(got))
	}
	for _, x := range pairwise(32) {
		if got := Get(pairwise(32), x.Manager, x.Way); !same(got, x.Fields) {
			t.Errorf("P14.2: Get(%q, %d) = %s", x.Manager, x.Way, tell(got))
		}
	}
}

func TestOwnersAndAll(t *testing.T) {
	for _, c := range []struct {
		p    string
		want []api.Entry
	}{
		{".x", []api.Entry{entry("a", 1, ".x"), entry("b", 1, ".x")}},
		{".y", []api.Entry{entry("a", 1, ".y")}},
		{".z", []api.Entry{entry("a", 2, ".z")}},
		{".q", nil},
		{"", nil},
		{".x.y", nil},
	} {
		if got := Owners(three(), set(c.p)[0]); !same(got, c.want) {
			t.Errorf("P14.2: Owners(%s) = %s", c.p, tell(got))
		}
	}
	for _, p := range []api.Path{{{}}, {{Kind: 9}}, {field("\xff")}, slices.Repeat(api.Path{field("x")}, 33)} {
		if got := Owners(three(), p); len(got) > 0 {
			t.Errorf("P14.2: Owners of what is no path: %s", tell(got))
		}
	}
	root := []api.Entry{entry("a", 2, "", ".x"), entry("b", 1, ".x"), entry("c", 1, "")}
	if got := Owners(root, nil); !same(got, []api.Entry{entry("a", 2, ""), entry("c", 1, "")}) {
		t.Errorf("P14.2: Owners of the root: %s", tell(got))
	}
	if got := Owners(many(64), set(".x")[0]); !same(got, many(64)) {
		t.Errorf("P14.2: 64 owners: %s", tell(got))
	}
	for _, c := range []struct {
		l    []api.Entry
		want []api.Path
	}{
		{three(), set(".x", ".y", ".z")},
		{nil, nil},
		{root, set("", ".x")},
		{many(64), set(".x")},
		{[]api.Entry{entry("a", 1, ".z", "[=10]"), entry("b", 1, ".a", "[=2]", "[=10]"), entry("c", 1, "[a=1]")}, set(".a", ".z", "[a=1]", "[=2]", "[=10]")},
	} {
		if got, e := All(c.l); e != api.OK || !same(got, c.want) {
			t.Errorf("P14.2: All of %s = %s, %d", tell(c.l), tell(got), e)
		}
	}
}

func TestWith(t *testing.T) {
	a1, a2, b1 := three()[0], three()[1], three()[2]
	full := many(64)
	wrong := []api.Path{{{Kind: 9}}}
	for i, c := range []struct {
		l       []api.Entry
		manager string
		way     int
		fields  []api.Path
		want    []api.Entry
		e       api.Errno
	}{
		{three(), "a", 2, nil, []api.Entry{a1, b1}, api.OK},
		{three(), "a", 2, []api.Path{}, []api.Entry{a1, b1}, api.OK},
		{three(), "a", 1, nil, []api.Entry{a2, b1}, api.OK},
		{three(), "c", 1, nil, three(), api.OK},
		{nil, "c", 1, nil, nil, api.OK},
		{nil, "c", 1, set(""), []api.Entry{entry("c", 1, "")}, api.OK},
		{[]api.Entry{b1}, "b", 1, nil, nil, api.OK},
		{three(), "c", 2, set(".x"), []api.Entry{a1, a2, b1, entry("c", 2, ".x")}, api.OK},
		{three(), "A", 2, set(".x"), []api.Entry{entry("A", 2, ".x"), a1, a2, b1}, api.OK},
		{three(), "aa", 1, set(".q"), []api.Entry{a1, a2, entry("aa", 1, ".q"), b1}, api.OK},
		{three(), "b", 2, set(".y"), []api.Entry{a1, a2, b1, entry("b", 2, ".y")}, api.OK},
		{[]api.Entry{a2}, "a", 1, set(".y"), []api.Entry{entry("a", 1, ".y"), a2}, api.OK},
		{three(), "a", 1, set(".q", ".r"), []api.Entry{entry("a", 1, ".q", ".r"), a2, b1}, api.OK},
		{three(), "a", 1, set(".x", ".y"), three(), api.OK},
		// the other entry of the manager has one
		{three(), "a", 2, set(".x"), nil, api.ErrEntries},
		{three(), "a", 2, set(".a", ".y", ".z"), nil, api.ErrEntries},
		{three(), "a", 1, set(".z"), nil, api.ErrEntries},
		{three(), "b", 2, set(".x"), nil, api.ErrEntries},
		{three(), "a", 2, set(".x.y"), []api.Entry{a1, entry("a", 2, ".x.y"), b1}, api.OK},
		// what is wrong with the name, the way, the paths, in this order
		{three(), "", 3, wrong, nil, api.ErrName},
		{three(), "\xff", 1, set(".x"), nil, api.ErrName},
		{three(), strings.Repeat("m", 65), 1, nil, nil, api.ErrName},
		{three(), strings.Repeat("m", 64), 1, nil, three(), api.OK},
		{three(), "b", 3, wrong, nil, api.ErrEntries},
		{three(), "b", 0, nil, nil, api.ErrEntries},
		{three(), "c", 1, wrong, nil, api.ErrPath},
		{three(), "c", 1, set(".y", ".x"), nil, api.ErrSet},
		{three(), "a", 2, set(".x", ".x"), nil, api.ErrSet},
		// too many
		{full, "z", 1, set(".x"), nil, api.ErrManagers},
		{full, "a", 1, set(".x"), nil, api.ErrManagers},
		{full, "m00007", 2, set(".y"), nil, api.ErrManagers},
		{full, "m00007", 2, set(".x"), nil, api.ErrEntries},
		{full, "z", 1, nil, full, api.OK},
		{full, "m00000", 1, nil, full[1:], api.OK},
		{full[1:], "m00000", 1, set(".x"), full, api.OK},
		{full, "m00063", 1, set(".y"), append(many(63), entry("m00063", 1, ".y")), api.OK},
	} {
		if got, e := With(c.l, c.manager, c.way, c.fields); e != c.e || !same(got, c.want) {
			t.Errorf("P14.3: the case %d: %s, %d, want %s, %d", i, tell(got), e, tell(c.want), c.e)
		}
		checkWith(t, c.l, c.manager, c.way, c.fields)
	}
}

func TestLose(t *testing.T) {
	a1, a2, b1 := three()[0], three()[1], three()[2]
	for i, c := range []struct {
		l      []api.Entry
		fields []api.Path
		but    api.Entry
		want   []api.Entry
		e      api.Errno
	}{
		{three(), set(".x", ".y"), api.Entry{Manager: "b", Way: 1}, []api.Entry{a2, b1}, api.OK},
		{three(), set(".x", ".y"), api.Entry{}, []api.Entry{a2}, api.OK},
		{three(), set(".x", ".y"), api.Entry{Manager: "b"}, []api.Entry{a2}, api.OK},
		{three(), set(".x", ".y"), api.Entry{Manager: "b", Way: 3}, []api.Entry{a2}, api.OK},
		{three(), set(".x", ".y"), api.Entry{Manager: "b", Way: 2}, []api.Entry{a2}, api.OK},
		{three(), set(".x"), api.Entry{Manager: "a", Way: 1}, []api.Entry{a1, a2}, api.OK},
		{three(), set(".x"), api.Entry{Manager: "a", Way: 2}, []api.Entry{entry("a", 1, ".y"), a2}, api.OK},
		{three(), set(".y"), api.Entry{}, []api.Entry{entry("a", 1, ".x"), a2, b1}, api.OK},
		{three(), set(".x", ".y", ".z"), api.Entry{}, nil, api.OK},
		{three(), set(".x", ".y", ".z"), api.Entry{Manager: "a", Way: 2}, []api.Entry{a2}, api.OK},
		{three(), nil, api.Entry{}, three(), api.OK},
		{three(), set("", ".q", ".x.y"), api.Entry{}, three(), api.OK}, // what lies above or below is not meant
		{nil, set(".x"), api.Entry{}, nil, api.OK},
		// of but its name alone counts, and that may be none
		{three(), set(".x", ".y"), api.Entry{Manager: "b", Way: 1, Fields: []api.Path{{{Kind: 9}}}}, []api.Entry{a2, b1}, api.OK},
		{three(), set(".x", ".y"), api.Entry{Manager: "b", Way: 1, Fields: set(".z")}, []api.Entry{a2, b1}, api.OK},
		{three(), set(".x", ".y"), api.Entry{Manager: "\xff", Way: 1}, []api.Entry{a2}, api.OK},
		{three(), set(".y", ".x"), api.Entry{}, nil, api.ErrSet},
		{three(), []api.Path{{{Kind: 9}}}, api.Entry{}, nil, api.ErrPath},
		{three(), append(set(".x"), api.Path{{}}), api.Entry{Manager: "a", Way: 1}, nil, api.ErrPath},
		{many(64), set(".x"), api.Entry{Manager: "m00063", Way: 1}, many(64)[63:], api.OK},
	} {
		if got, e := Lose(c.l, c.fields, c.but); e != c.e || !same(got, c.want) {
			t.Errorf("P14.4: the case %d: %s, %d, want %s, %d", i, tell(got), e, tell(c.want), c.e)
		}
		checkLose(t, c.l, c.fields, c.but)
	}
}

func TestThereAndBack(t *testing.T) {
	for _, c := range []struct {
		l []api.Entry
		v string
	}{
		{nil, `[]`},
		{three()[2:], `[{"fields":{".x":{}},"manager":"b","way":"apply"}]`},
		{three(), `[{"fields":{".x":{},".y":{}},"manager":"a","way":"apply"},{"fields":{".z":{}},"manager":"a","way":"update"},{"fields":{".x":{}},"manager":"b","way":"apply"}]`},
		{[]api.Entry{entry("a", 2, "")}, `[{"fields":{".":{}},"manager":"a","way":"update"}]`},
		{[]api.Entry{entry("way", 2, ".l[id=1]", ".l[id=1].x")}, `[{"fields":{".l":{"[id=1]":{".":{},".x":{}}}},"manager":"way","way":"update"}]`},
		{[]api.Entry{entry("\"\u00e9\n", 1, `.s[="q"]`)}, `[{"fields":{".s":{"[=\"q\"]":{}}},"manager":"\"é\n","way":"apply"}]`},
	} {
		v, e := Encode(c.l)
		if b, f := json.Print(v, api.DeepRecord); e != api.OK || f != api.OK || string(b) != c.v {
			t.Errorf("P14.5: Encode of %s = %s, %d, %d", tell(c.l), b, e, f)
		}
		if l, e := Decode(read(c.v)); e != api.OK || !same(l, c.l) {
			t.Errorf("P14.5: Decode of %s = %s, %d", c.v, tell(l), e)
		}
	}
}

func TestNoEntries(t *testing.T) {
	for _, s := range []string{
		`{}`, `null`, `true`, `1`, `""`, `"[]"`, // no list
		`[1]`, `[null]`, `[[]]`, `[""]`, `[{}]`, `[[{"fields":{".x":{}},"manager":"b","way":"apply"}]]`, `{"fields":{".x":{}},"manager":"b","way":"apply"}`, // no map in it
		`[{"fields":{".x":{}},"manager":"b","way":"none"}]`, `[{"fields":{".x":{}},"manager":"b","way":""}]`, `[{"fields":{".x":{}},"manager":"b","way":"Apply"}]`, `[{"fields":{".x":{}},"manager":"b","way":"apply "}]`, `[{"fields":{".x":{}},"manager":"b","way":1}]`, `[{"fields":{".x":{}},"manager":"b","way":null}]`, `[{"fields":{".x":{}},"manager":"b","way":["apply"]}]`, // no way
		`[{"fields":{".x":{}},"manager":"","way":"apply"}]`, `[{"fields":{".x":{}},"manager":1,"way":"apply"}]`, `[{"fields":{".x":{}},"manager":null,"way":"apply"}]`, `[{"fields":{".x":{}},"manager":["b"],"way":"apply"}]`, `[{"fields":{".x":{}},"manager":"` + strings.Repeat("m", 65) + `","way":"apply"}]`, // no name
		`[{"fields":{},"manager":"b","way":"apply"}]`, `[{"fields":{"x":{}},"manager":"b","way":"apply"}]`, `[{"fields":null,"manager":"b","way":"apply"}]`, `[{"fields":[],"manager":"b","way":"apply"}]`, `[{"fields":{".x":1},"manager":"b","way":"apply"}]`, `[{"fields":{".x":{".":{}}},"manager":"b","way":"apply"}]`, `[{"fields":".x","manager":"b","way":"apply"}]`, // no set, or an empty one
		`[{"manager":"b","way":"apply"}]`, `[{"fields":{".x":{}},"way":"apply"}]`, `[{"fields":{".x":{}},"manager":"b"}]`, // a member is missing
		`[{"fields":{".x":{}},"manager":"b","way":"apply","z":1}]`, `[{"a":1,"fields":{".x":{}},"manager":"b","way":"apply"}]`, `[{"fields":{".x":{}},"manager":"b","n":null,"way":"apply"}]`, // a further one
		`[{"field":{".x":{}},"manager":"b","way":"apply"}]`, `[{"fields":{".x":{}},"name":"b","way":"apply"}]`, `[{"fields":{".x":{}},"manager":"b","ways":"apply"}]`, // another one
		`[{"fields":{".x":{}},"manager":"b","way":"apply"},{"fields":{".x":{}},"manager":"a","way":"apply"}]`, `[{"fields":{".x":{}},"manager":"b","way":"update"},{"fields":{".y":{}},"manager":"b","way":"apply"}]`, `[{"fields":{".x":{}},"manager":"b","way":"apply"},{"fields":{".y":{}},"manager":"b","way":"apply"}]`, // another order
		`[{"fields":{".x":{}},"manager":"b","way":"apply"},{"fields":{".x":{}},"manager":"b","way":"update"}]`,            // a path in common
		`[{"fields":{".x":{}},"manager":"b","way":"apply"},1]`, `[{"fields":{".x":{}},"manager":"b","way":"apply"},null]`, // the last one alone
	} {
		if l, e := Decode(read(s)); e != api.ErrEntries || l != nil {
			t.Errorf("P14.5: Decode(%s) = %s, %d", s, tell(l), e)
		}
		checkDecode(t, read(s))
	}
}

// manyTold is the value of entries of so many managers.
func manyTold(n int) api.Value {
	var l []api.Value
	for _, x := range many(n) {
		l = append(l, object(at("fields", read(`{".x":{}}`)), at("manager", str(x.Manager)), at("way", str("apply"))))
	}
	return list(l...)
}

// under is a value so many levels down along a key.
func under(n int, key string, v api.Value) api.Value {
	for range n {
		v = object(at(key, v))
	}
	return v
}

// one is the value of an entry with some fields.
func one(fields api.Value) api.Value {
	return list(object(at("fields", fields), at("manager", str("b")), at("way", str("apply"))))
}

func TestDecodeLimits(t *testing.T) {
	loop := make([]api.Value, 1)
	loop[0] = list(loop...) // it holds itself
	deep := list()
	for range 41 {
		deep = list(deep)
	}
	for i, c := range []struct {
		v api.Value
		e api.Errno
	}{
		{manyTold(64), api.OK},
		{manyTold(65), api.ErrEntries}, // no entries have that value
		{one(under(32, ".a", object())), api.OK},
		{one(under(33, ".a", object())), api.ErrEntries},
		{one(under(38, ".a", object())), api.ErrEntries},
		{one(under(39, ".a", object())), api.ErrDeep},
		{deep.List[0], api.ErrEntries},
		{deep, api.ErrDeep},
		{list(loop...), api.ErrDeep},
		{api.Value{Kind: 9}, api.ErrValue},
		{api.Value{Kind: api.List, Int: 1}, api.ErrValue},
		{one(api.Value{Kind: -1}), api.ErrValue},
		{list(num(1), api.Value{Kind: 9}), api.ErrValue},
		{list(object(at("way", str("apply")), at("fields", object()))), api.ErrValue},
		{list(object(at("fields", read(`{".x":{}}`)), at("manager", str("\xff")), at("way", str("apply")))), api.ErrValue},
		{list(make([]api.Value, 65535)...), api.ErrEntries},
		{list(make([]api.Value, 65536)...), api.ErrNodes},
		{str(strings.Repeat("x", 1048576)), api.ErrEntries},
		{str(strings.Repeat("x", 1048577)), api.ErrBytes},
	} {
		l, e := Decode(c.v)
		if e != c.e || e != api.OK && l != nil {
			t.Errorf("P14.5: the case %d: %s, %d, want %d", i, tell(l), e, c.e)
		}
	}
}

// members is so many paths of one element, rising.
func members(n int) []api.Path {
	var l []api.Path
	for i := range n {
		l = append(l, api.Path{item(num(i))})
	}
	return l
}

// long is a path with a name of so many bytes.
func long(n int) []api.Path { return []api.Path{{field(strings.Repeat("x", n))}} }

// Entries have so many values and bytes as a record may have, and not one more; what an entry's own fields have too many comes first.
func TestEncodeLimits(t *testing.T) {
	by := func(manager string, way int, fields []api.Path) api.Entry {
		return api.Entry{Manager: manager, Way: way, Fields: fields}
	}
	const all = 1048576 - 1 - len("fields"+"manager"+"way") // the dot of the name, and the keys
	tall := []api.Path{slices.Repeat(api.Path{field("a")}, 32)}
	for i, c := range []struct {
		l []api.Entry
		e api.Errno
	}{
		{[]api.Entry{by("a", 1, members(65531))}, api.OK}, // with the list, the entry, the root of its fields, the manager and the way
		{[]api.Entry{by("a", 1, members(65532))}, api.ErrNodes},
		{[]api.Entry{by("a", 1, members(65535))}, api.ErrNodes},
		{[]api.Entry{by("a", 1, members(65536))}, api.ErrNodes},
		{[]api.Entry{by("a", 1, members(30000)), by("b", 1, members(35527))}, api.OK},
		{[]api.Entry{by("a", 1, members(30000)), by("b", 1, members(35528))}, api.ErrNodes},
		{[]api.Entry{by("a", 1, long(all-6))}, api.OK},
		{[]api.Entry{by("a", 1, long(all-5))}, api.ErrBytes},
		{[]api.Entry{by("a", 2, long(all-7))}, api.OK},
		{[]api.Entry{by("a", 2, long(all-6))}, api.ErrBytes},
		{[]api.Entry{by("abc", 1, long(all-8))}, api.OK},
		{[]api.Entry{by("abc", 1, long(all-7))}, api.ErrBytes},
		{[]api.Entry{by("a", 1, long(1048576))}, api.ErrBytes},
		{[]api.Entry{by("a", 1, long(1048576-1))}, api.ErrBytes},
		// by the value: the first limit that is passed
		{[]api.Entry{by("a", 1, members(65530)), by("b", 1, long(1000000))}, api.ErrNodes},
		{[]api.Entry{by("a", 1, long(1000000)), by("b", 1, members(65530))}, api.ErrBytes},
		// by the entries: what is wrong with the fields of one of them, ahead of the value
		{[]api.Entry{by("a", 1, members(65535)), by("b", 1, long(1048576))}, api.ErrBytes},
		{[]api.Entry{by("a", 1, long(1048575)), by("b", 1, members(65536))}, api.ErrNodes},
		{[]api.Entry{by("a", 1, members(65536)), by("b", 1, long(1048576))}, api.ErrNodes},
		{[]api.Entry{by("a", 1, long(1048576)), by("b", 1, members(65536))}, api.ErrBytes},
		{[]api.Entry{by("a", 1, tall), by("b", 2, tall)}, api.OK},
	} {
		v, e := Encode(c.l)
		if e != c.e || e != api.OK && !same(v, api.Value{}) {
			t.Errorf("P14.5: the case %d: %d, want %d", i, e, c.e)
		}
		if e != api.OK {
			continue
		}
		if l, e := Decode(v); e != api.OK || !same(l, c.l) {
			t.Errorf("P14.6: the case %d, there and back: %d", i, e)
		}
	}
	if v, _ := Encode([]api.Entry{by("a", 1, tall)}); value.Depth(v) != 34 {
		t.Errorf("P14.5: the depth %d", value.Depth(v))
	}
}
