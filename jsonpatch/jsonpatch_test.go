package jsonpatch

import (
	"maps"
	"math/rand"
	"slices"
	"strings"
	"testing"

	"freehold/api"
	"freehold/value"
)

func checkParse(t *testing.T, v api.Value) {
	t.Helper()
	l, at, e := Parse(v)
	if want, to, f := wantParse(v); at != to || e != f || !alike(l, want) {
		t.Errorf("P6.1: Parse(%s) = %s, %d, %d, want %s, %d, %d", show(v), tell(l), at, e, tell(want), to, f)
	}
}

func checkPrint(t *testing.T, l []api.Step) {
	t.Helper()
	v, at, e := Print(l)
	if want, to, f := wantPrint(l); at != to || e != f || !same(v, want) {
		t.Errorf("P6.2: Print(%s) = %s, %d, %d, want %s, %d, %d", tell(l), show(v), at, e, show(want), to, f)
	}
}

func checkApply(t *testing.T, v api.Value, l []api.Step) {
	t.Helper()
	w, at, e := Apply(v, l)
	if want, to, f := wantApply(v, l); at != to || e != f || !same(w, want) {
		t.Errorf("P6.3: %s by %s: %s, %d, %d, want %s, %d, %d", show(v), tell(l), show(w), at, e, show(want), to, f)
	}
}

func checkDiff(t *testing.T, a, b api.Value) {
	t.Helper()
	l, e := Diff(a, b)
	if want, f := wantDiff(a, b); e != f || !alike(l, want) {
		t.Errorf("P6.4: Diff(%s, %s) = %s, %d, want %s, %d", show(a), show(b), tell(l), e, tell(want), f)
	}
}

// applies holds one outcome of Apply against what is written, and against the second reading.
func applies(t *testing.T, v api.Value, l []api.Step, want string, to int, f api.Errno) {
	t.Helper()
	w, at, e := Apply(v, l)
	if at != to || e != f || show(w) != want {
		t.Errorf("P6.3: %s by %s: %s, %d, %d, want %s, %d, %d", show(v), tell(l), show(w), at, e, want, to, f)
	}
	checkApply(t, v, l)
}

// refuses is applies of a step that can't be done, the last one.
func refuses(t *testing.T, v api.Value, e api.Errno, l ...api.Step) {
	t.Helper()
	applies(t, v, l, "null", len(l)-1, e)
}

const doc = `{"a":[1,2]}`

func TestApplyExamples(t *testing.T) {
	nine := num(9)
	for _, c := range []struct {
		l    []api.Step
		want string
	}{
		{[]api.Step{adds("/a/1", nine)}, `{"a":[1,9,2]}`},
		{[]api.Step{adds("/a/-", nine)}, `{"a":[1,2,9]}`},
		{[]api.Step{adds("/a/2", nine)}, `{"a":[1,2,9]}`},
		{[]api.Step{adds("/b", num(1))}, `{"a":[1,2],"b":1}`},
		{[]api.Step{adds("/b", null)}, `{"a":[1,2],"b":null}`},
		{[]api.Step{adds("/a", nine)}, `{"a":9}`},
		{[]api.Step{adds("", num(5))}, `5`},
		{[]api.Step{removes("/a/0")}, `{"a":[2]}`},
		{[]api.Step{removes("/a")}, `{}`},
		{[]api.Step{removes("/a/0"), removes("/a/0")}, `{"a":[]}`},
		{[]api.Step{replaces("/a", num(1))}, `{"a":1}`},
		{[]api.Step{replaces("/a/1", nine)}, `{"a":[1,9]}`},
		{[]api.Step{replaces("", nine)}, `9`},
		{[]api.Step{tests("/a/0", num(1)), removes("/a")}, `{}`},
		{[]api.Step{tests("", read(doc))}, doc},
		{[]api.Step{adds("/b", null), tests("/b", null)}, `{"a":[1,2],"b":null}`},
		{[]api.Step{moves("/a", "/ab")}, `{"ab":[1,2]}`},
		{[]api.Step{moves("/a/0", "/b")}, `{"a":[2],"b":1}`},
		{[]api.Step{moves("/a/0", "")}, `1`},
		{[]api.Step{moves("/a", "/a")}, doc},
		{[]api.Step{moves("/a/0", "/a/1")}, `{"a":[2,1]}`},
		{[]api.Step{moves("/a/0", "/a/-")}, `{"a":[2,1]}`},
		{[]api.Step{moves("/a/1", "/a/0")}, `{"a":[2,1]}`},
		{[]api.Step{moves("/a/1", "/a/1")}, doc},
		{[]api.Step{moves("/a/0", "/a")}, `{"a":1}`},
		{[]api.Step{copies("/a", "/a/0")}, `{"a":[[1,2],1,2]}`},
		{[]api.Step{copies("", "/b")}, `{"a":[1,2],"b":{"a":[1,2]}}`},
		{[]api.Step{copies("/a/1", "/a/0")}, `{"a":[2,1,2]}`},
		{[]api.Step{copies("/a", "")}, `[1,2]`},
		{[]api.Step{copies("", "")}, doc},
		{nil, doc},
	} {
		applies(t, read(doc), c.l, c.want, -1, api.OK)
	}
}

func TestStepsThatCantBeDone(t *testing.T) {
	v := read(doc)
	refuses(t, v, api.ErrPlace, removes("/c"))
	refuses(t, v, api.ErrPlace, removes(""))
	refuses(t, v, api.ErrIndex, removes("/a/2"))
	refuses(t, v, api.ErrIndex, removes("/a/-"))
	refuses(t, v, api.ErrPlace, replaces("/b", num(1)))
	refuses(t, v, api.ErrIndex, replaces("/a/-", num(1)))
	refuses(t, v, api.ErrIndex, adds("/a/3", num(1)))
	refuses(t, v, api.ErrIndex, adds("/a/01", num(1)))
	refuses(t, v, api.ErrPlace, adds("/b/c", num(1)))
	refuses(t, v, api.ErrPlace, adds("/a/0/0", num(1)))
	refuses(t, v, api.ErrPatchTest, tests("/a/0", num(2)))
	refuses(t, v, api.ErrPatchTest, tests("/a/0", null))
	refuses(t, v, api.ErrPatchTest, tests("/a", read(`[2,1]`)))
	refuses(t, v, api.ErrPlace, tests("/b", null))
	refuses(t, v, api.ErrIndex, tests("/a/2", null))
	refuses(t, v, api.ErrIndex, moves("/a/2", "/b"))
	refuses(t, v, api.ErrPlace, moves("/c", "/d"))
	refuses(t, v, api.ErrPlace, moves("/a", "/b/c"))
	refuses(t, v, api.ErrIndex, moves("/a/0", "/a/2")) // it is added where one has gone
	refuses(t, v, api.ErrPlace, moves("", ""))         // the root can't be taken away
	refuses(t, v, api.ErrPlace, copies("/c", "/d"))
	refuses(t, v, api.ErrIndex, copies("/a/-", "/d"))
	refuses(t, v, api.ErrIndex, copies("/a", "/a/3"))
	refuses(t, v, api.ErrIndex, removes("/a/0"), removes("/a/1"))
	refuses(t, v, api.ErrPatchTest, adds("/a/0", num(9)), tests("/a/0", num(9)), tests("/a/0", num(1)))
	refuses(t, v, api.ErrPlace, moves("/a", "/b"), tests("/b/0", num(1)), tests("/a", null))
}

func TestMovesIntoThemselves(t *testing.T) {
	v := read(`{"a":{"b":[[1]]},"ab":1,"~":{"x":1},"/":{"y":1},"":{"":{}}}`)
	for _, s := range []api.Step{moves("/a", "/a/0"), moves("/a", "/a/b"), moves("/a", "/a/"), moves("", "/a"), moves("", "/"), moves("/a/b/0", "/a/b/0/0"), moves("/~0", "/~0/x"), moves("/~1", "/~1/y"), moves("/", "//"), moves("/", "//x"), moves("/a", "/a/b/0/0/0")} {
		refuses(t, v, api.ErrPatchMove, s)
	}
	// That it goes into itself is told ahead of whether From is there.
	refuses(t, v, api.ErrPatchMove, moves("/none", "/none/0"))
	refuses(t, v, api.ErrPatchMove, moves("/a/b/7", "/a/b/7/x"))
	refuses(t, v, api.ErrPatchMove, moves("", "/none/none"))
	applies(t, v, []api.Step{moves("/a", "/ab")}, `{"":{"":{}},"/":{"y":1},"ab":{"b":[[1]]},"~":{"x":1}}`, -1, api.OK)
	applies(t, v, []api.Step{moves("/ab", "/a/c"), moves("/a/b", "/a")}, `{"":{"":{}},"/":{"y":1},"a":[[1]],"~":{"x":1}}`, -1, api.OK)
	applies(t, v, []api.Step{moves("/~0", "/~01")}, `{"":{"":{}},"/":{"y":1},"a":{"b":[[1]]},"ab":1,"~1":{"x":1}}`, -1, api.OK)
	// A copy may.
	applies(t, read(doc), []api.Step{copies("/a", "/a/1")}, `{"a":[1,[1,2],2]}`, -1, api.OK)
}

// parses holds the outcome of Parse of a text that is no patch.
func parses(t *testing.T, s string, to int, f api.Errno) {
	t.Helper()
	if l, at, e := Parse(read(s)); at != to || e != f || e != api.OK && len(l) > 0 {
		t.Errorf("P6.1: Parse(%s) = %s, %d, %d, want %d, %d", s, tell(l), at, e, to, f)
	}
	checkParse(t, read(s))
}

func TestTextsThatAreNoPatches(t *testing.T) {
	for _, s := range []string{`{}`, `null`, `"add"`, `1`, `true`, `{"op":"remove","path":"/a"}`} {
		parses(t, s, -1, api.ErrPatchShape)
	}
	for _, s := range []string{
		`1`, `null`, `[]`, `"remove"`, `{}`, `["op","path"]`,
		`{"path":""}`, `{"op":"put","path":""}`, `{"op":1,"path":""}`, `{"op":null,"path":""}`, `{"op":["remove"],"path":""}`, `{"op":"","path":""}`, `{"op":"Remove","path":""}`, `{"op":"remove ","path":""}`,
		`{"op":"remove"}`, `{"op":"remove","path":1}`, `{"op":"remove","path":null}`, `{"op":"remove","path":["a"]}`, `{"op":"remove","Path":"/a"}`,
		`{"op":"move","path":""}`, `{"op":"copy","path":""}`, `{"op":"move","path":"","from":1}`, `{"op":"copy","path":"","from":null}`, `{"op":"copy","path":"","value":""}`,
		`{"op":"add","path":""}`, `{"op":"replace","path":""}`, `{"op":"test","path":""}`, `{"op":"test","path":"","from":""}`,
		// the shape is told ahead of the pointers
		`{"op":"add","path":"a"}`, `{"op":"move","path":"a"}`, `{"op":"put","path":"a"}`, `{"op":"copy","path":"a","from":[]}`,
	} {
		parses(t, "["+s+"]", 0, api.ErrPatchShape)
		parses(t, `[{"op":"remove","path":"/a"},{"op":"copy","path":"","from":""},`+s+`,{"op":"put"}]`, 2, api.ErrPatchShape)
	}
	for _, s := range []string{
		`{"op":"remove","path":"a"}`, `{"op":"add","path":"/~","value":1}`, `{"op":"copy","path":"/~2","from":""}`, `{"op":"copy","path":"","from":"/~"}`, `{"op":"move","path":"","from":"x"}`, `{"op":"move","path":"x","from":"y"}`,
	} {
		parses(t, "["+s+"]", 0, api.ErrPointer)
		parses(t, `[{"op":"test","path":"/a","value":null},`+s+`,{"op":"put"}]`, 1, api.ErrPointer)
	}
}

func TestParseExamples(t *testing.T) {
	deep := show(lists(36, null))
	for s, want := range map[string]api.Step{
		`{"op":"add","path":"/a/-","value":[1]}`:                                             adds("/a/-", read(`[1]`)),
		`{"op":"remove","path":"/a"}`:                                                        removes("/a"),
		`{"op":"replace","path":"","value":null}`:                                            replaces("", null),
		`{"op":"move","path":"/b","from":""}`:                                                moves("", "/b"),
		`{"op":"copy","path":"/b","from":"/a~1b/~0"}`:                                        copies("/a~1b/~0", "/b"),
		`{"op":"test","path":"//","value":{"a":null}}`:                                       tests("//", read(`{"a":null}`)),
		`{"op":"remove","path":"/a","value":1,"from":2,"x":3}`:                               removes("/a"),
		`{"op":"remove","path":"/a","value":` + deep + `,"from":"~"}`:                        removes("/a"),
		`{"op":"add","path":"/a","value":1,"from":"~"}`:                                      adds("/a", num(1)),
		`{"op":"test","path":"/a","value":1,"from":null}`:                                    tests("/a", num(1)),
		`{"op":"move","path":"/a","from":"/b","value":` + deep + `}`:                         moves("/b", "/a"),
		`{"op":"copy","path":"/a","from":"/b","value":1,"":` + deep + `,"op2":"put","z":[]}`: copies("/b", "/a"),
	} {
		l, at, e := Parse(read("[" + s + "]"))
		if at != -1 || e != api.OK || !alike(l, []api.Step{want}) {
			t.Errorf("P6.1: Parse([%s]) = %s, %d, %d", s, tell(l), at, e)
		}
		checkParse(t, read("["+s+`,{"op":"remove","path":"/z"},`+s+"]"))
	}
	if l, at, e := Parse(list()); len(l) != 0 || at != -1 || e != api.OK {
		t.Errorf("P6.1: Parse([]) = %s, %d, %d", tell(l), at, e)
	}
}

func TestPrintExamples(t *testing.T) {
	for want, s := range map[string]api.Step{
		`[{"op":"add","path":"/a/-","value":[1]}]`:      adds("/a/-", read(`[1]`)),
		`[{"op":"remove","path":"/a"}]`:                 removes("/a"),
		`[{"op":"replace","path":"","value":null}]`:     replaces("", null),
		`[{"from":"","op":"move","path":"/b"}]`:         moves("", "/b"),
		`[{"from":"/a~1b/~0","op":"copy","path":"/b"}]`: copies("/a~1b/~0", "/b"),
		`[{"op":"test","path":"//","value":{}}]`:        tests("//", object()),
	} {
		if v, at, e := Print([]api.Step{s}); at != -1 || e != api.OK || show(v) != want {
			t.Errorf("P6.2: Print(%s) = %s, %d, %d, want %s", tell([]api.Step{s}), show(v), at, e, want)
		}
	}
	if v, at, e := Print(nil); show(v) != "[]" || at != -1 || e != api.OK {
		t.Errorf("P6.2: Print(none) = %s, %d, %d", show(v), at, e)
	}
	empty := api.Step{Op: "remove", Path: "/a", Value: api.Value{List: []api.Value{}, Map: []api.Member{}}}
	checkPrint(t, []api.Step{empty}) // nil and empty lists are the same: that is the zero value
	applies(t, read(doc), []api.Step{empty}, "{}", -1, api.OK)
}

// Steps that may not be: Print and Apply tell the same of them.
func TestStepsThatMayNotBe(t *testing.T) {
	within := list(null)
	within.List[0] = within
	for _, c := range []struct {
		s api.Step
		e api.Errno
	}{
		{api.Step{}, api.ErrPatchShape},
		{api.Step{Op: "put"}, api.ErrPatchShape},
		{api.Step{Op: "Add", Path: "/b", Value: num(1)}, api.ErrPatchShape},
		{api.Step{Op: "remove", Path: "/a", From: "/a"}, api.ErrPatchShape},
		{api.Step{Op: "add", Path: "/b", From: "/"}, api.ErrPatchShape},
		{api.Step{Op: "replace", Path: "/a", From: "x"}, api.ErrPatchShape},
		{api.Step{Op: "test", Path: "", From: "/a", Value: read(doc)}, api.ErrPatchShape},
		{api.Step{Op: "remove", Path: "/a", Value: num(1)}, api.ErrPatchShape},
		{api.Step{Op: "remove", Path: "/a", Value: num(0)}, api.ErrPatchShape},
		{api.Step{Op: "remove", Path: "/a", Value: text("")}, api.ErrPatchShape},
		{api.Step{Op: "remove", Path: "/a", Value: list()}, api.ErrPatchShape},
		{api.Step{Op: "remove", Path: "/a", Value: within}, api.ErrPatchShape},
		{api.Step{Op: "remove", Path: "/a", Value: bad}, api.ErrPatchShape},
		{api.Step{Op: "remove", Path: "/a", Value: api.Value{Bool: true}}, api.ErrPatchShape},
		{api.Step{Op: "remove", Path: "/a", Value: api.Value{Int: 1}}, api.ErrPatchShape},
		{api.Step{Op: "remove", Path: "/a", Value: api.Value{Str: "x"}}, api.ErrPatchShape},
		{api.Step{Op: "remove", Path: "/a", Value: api.Value{List: []api.Value{null}}}, api.ErrPatchShape},
		{api.Step{Op: "remove", Path: "/a", Value: api.Value{Map: []api.Member{at("a", null)}}}, api.ErrPatchShape},
		{api.Step{Op: "move", From: "/a", Path: "/b", Value: num(1)}, api.ErrPatchShape},
		{api.Step{Op: "copy", From: "/a", Path: "/b", Value: object()}, api.ErrPatchShape},
		{api.Step{Op: "copy", From: "~", Path: "~", Value: num(1)}, api.ErrPatchShape}, // ahead of the pointers
		{api.Step{Op: "remove", Path: "~", From: "~"}, api.ErrPatchShape},
		{removes("a"), api.ErrPointer},
		{adds("/~", num(1)), api.ErrPointer},
		{adds("/\xff", bad), api.ErrPointer}, // ahead of the value
		{moves("/~2", "/b"), api.ErrPointer},
		{copies("x", "/b"), api.ErrPointer},
		{copies("/a", "x"), api.ErrPointer},
		{moves("/a", "/a/~"), api.ErrPointer}, // ahead of where it goes
		{adds("/b", bad), api.ErrValue},
		{adds("/b", api.Value{Bool: true}), api.ErrValue},
		{adds("/b/c", text("\xff")), api.ErrValue}, // ahead of the place
		{replaces("/a", object(at("b", null), at("a", null))), api.ErrValue},
		{tests("/a", lists(33, null)), api.ErrDeep},
		{tests("/none", within), api.ErrDeep},
		{tests("/a", nulls(65536)), api.ErrNodes},
		{adds("/a/9", text(strings.Repeat("x", 1048577))), api.ErrBytes},
	} {
		for _, ahead := range [][]api.Step{nil, {tests("/a", read(`[1,2]`)), copies("/a", "/c")}} {
			l := append(slices.Clone(ahead), c.s, api.Step{Op: "never"})
			v, at, e := Print(l)
			if at != len(ahead) || e != c.e || !same(v, null) {
				t.Errorf("P6.2: Print(%s) = %s, %d, %d, want %d, %d", tell(l), show(v), at, e, len(ahead), c.e)
			}
			applies(t, read(doc), l, "null", len(ahead), c.e)
		}
	}
}

// What a step may not be is told of only when the ones ahead of it are done.
func TestTheFirstStepThatCantBeDone(t *testing.T) {
	v := read(doc)
	applies(t, v, []api.Step{removes("/none"), {Op: "put"}}, "null", 0, api.ErrPlace)
	applies(t, v, []api.Step{tests("/a", null), removes("~")}, "null", 0, api.ErrPatchTest)
	applies(t, v, []api.Step{tests("/a/0", num(1)), moves("/a", "/a/0"), adds("/a", bad)}, "null", 1, api.ErrPatchMove)
	applies(t, v, []api.Step{adds("/b", lists(32, null)), {Op: "put"}}, "null", 0, api.ErrDeep)
	checkPrint(t, []api.Step{removes("/none"), {Op: "put"}, removes("~")})
}

func TestNumbersOfSteps(t *testing.T) {
	v := read(doc)
	for n, want := range map[int]api.Errno{255: api.OK, 256: api.OK, 257: api.ErrPatchSteps, 300: api.ErrPatchSteps} {
		l := slices.Repeat([]api.Step{tests("", v)}, n)
		after := doc
		if want != api.OK {
			after = "null"
		}
		applies(t, v, l, after, -1, want)
		written, at, e := Print(l)
		if at != -1 || e != want || len(written.List) != n*int(1-min(1, want)) {
			t.Errorf("P6.2: %d steps: %d, %d", n, at, e)
		}
		texts := list(slices.Repeat([]api.Value{read(`{"op":"test","path":"","value":1}`)}, n)...)
		if got, at, e := Parse(texts); at != -1 || e != want || len(got) != len(written.List) {
			t.Errorf("P6.1: %d steps: %d, %d", n, at, e)
		}
		checkParse(t, texts)
	}
	// Too many steps are told ahead of what is wrong with one of them, and behind what is wrong with the value.
	wrong := slices.Repeat([]api.Step{{Op: "put"}}, 257)
	applies(t, v, wrong, "null", -1, api.ErrPatchSteps)
	applies(t, bad, wrong, "null", -1, api.ErrValue)
	applies(t, lists(33, null), wrong, "null", -1, api.ErrDeep)
	checkPrint(t, wrong)
	parses(t, show(nulls(0)), -1, api.OK)
	if _, at, e := Parse(nulls(257)); at != -1 || e != api.ErrPatchSteps {
		t.Errorf("P6.1: 257 nulls: %d, %d", at, e)
	}
	if _, at, e := Parse(list(append(make([]api.Value, 300), bad)...)); at != -1 || e != api.ErrValue {
		t.Errorf("P6.1: too many steps, one of them no value: %d, %d", at, e)
	}
}

// The errors of whole arguments, whatever else is wrong.
func TestWrongArguments(t *testing.T) {
	long := strings.Repeat("x", 1048577)
	within := list(null)
	within.List[0] = within
	for i, c := range []struct {
		v api.Value
		e api.Errno
	}{
		{bad, api.ErrValue}, {text("\xff"), api.ErrValue}, {object(at("b", null), at("a", null)), api.ErrValue}, {list(bad), api.ErrValue},
		{nulls(65536), api.ErrNodes}, {text(long), api.ErrBytes}, {object(at(long, null)), api.ErrBytes}, {lists(41, null), api.ErrDeep}, {within, api.ErrDeep},
		{list(object(at("op", text("put")), at("x", text("\xff")))), api.ErrValue},
	} {
		if l, at, e := Parse(c.v); len(l) != 0 || at != -1 || e != c.e {
			t.Errorf("P6.1: the case %d: %d, %d", i, at, e)
		}
		for _, l := range [][]api.Step{nil, {removes("/a")}, {{Op: "put"}}} {
			if v, at, e := Apply(c.v, l); !same(v, null) || at != -1 || e != c.e {
				t.Errorf("P6.3: the case %d: %d, %d", i, at, e)
			}
		}
		for _, b := range []api.Value{null, lists(33, null), nulls(65536), bad} {
			if l, e := Diff(c.v, b); len(l) != 0 || e != c.e {
				t.Errorf("P6.4: the case %d: %d", i, e)
			}
		}
		if l, e := Diff(null, c.v); len(l) != 0 || e != c.e {
			t.Errorf("P6.4: the case %d: %d", i, e)
		}
	}
	checkDiff(t, lists(32, null), lists(33, null))
	checkDiff(t, lists(33, null), lists(33, null))
	checkDiff(t, lists(33, null), null)
	checkDiff(t, list(lists(32, null), bad), null)
	checkDiff(t, lists(32, null), lists(32, num(1)))
	checkApply(t, lists(33, null), nil)
	checkApply(t, lists(32, null), nil)
}

func TestDepthsOfSteps(t *testing.T) {
	for n := 30; n <= 40; n++ {
		x := lists(n, null)
		checkPrint(t, []api.Step{removes("/a"), adds("/a", x)})
		checkApply(t, null, []api.Step{tests("", null), adds("", x)})
		checkApply(t, read(doc), []api.Step{adds("/a/0", x)})
		if n <= 38 {
			checkParse(t, list(read(`{"op":"remove","path":""}`), object(at("op", text("add")), at("path", text("/a")), at("value", x))))
		}
	}
	refuses(t, read(doc), api.ErrDeep, tests("/a/0", num(1)), adds("/b", lists(32, null)))
	refuses(t, read(doc), api.ErrDeep, replaces("/a/0", lists(31, null)))
	checkApply(t, read(doc), []api.Step{replaces("/a/0", lists(30, null))})
	// What a copy makes is too deep for pointer, or only for a patch.
	deep := list(lists(31, null), null)
	for _, p := range []string{"/0/0", "/0/0/0/0/0/0/0", "/0/0/0/0/0/0/0/0/0/0", "/0/0/0/0/0/0/0/0/0/0/0/0/0", "/1", ""} {
		checkApply(t, deep, []api.Step{copies("/0", p)})
		checkApply(t, deep, []api.Step{copies("", p)})
	}
}

// What is made is held against the limits behind each step; pointer looks ahead of the patch, with a greater depth.
func TestLimitsOfWhatComesOut(t *testing.T) {
	many := list(nulls(32766), null) // 32769 values; 65536 with the first of them twice
	checkApply(t, many, []api.Step{copies("/0", "/1")})
	if v, _, e := Apply(many, []api.Step{copies("/0", "/1")}); e != api.OK || value.Nodes(v) != 65536 {
		t.Errorf("P6.3: 65536 values: %d", e)
	}
	refuses(t, many, api.ErrNodes, adds("/-", null), copies("/0", "/1"))
	refuses(t, many, api.ErrNodes, copies("", "/0/-"))
	checkApply(t, many, []api.Step{copies("/0", "/1"), removes("/0"), adds("/-", null)})
	applies(t, many, []api.Step{copies("/0", "/1"), copies("/0/0", "/-"), removes("/0")}, "null", 1, api.ErrNodes) // though a later step would mend it
	half := strings.Repeat("x", 524288)
	checkApply(t, list(text(half)), []api.Step{copies("/0", "/-")})
	refuses(t, list(text(half), text("y")), api.ErrBytes, copies("/0", "/-"))
	refuses(t, object(at("b", null), at(half, num(1))), api.ErrBytes, adds("/"+strings.Repeat("z", 524288), null))
	refuses(t, list(text(half)), api.ErrBytes, copies("/0", "/-"), adds("/0", text("y")))
	// Of one value that is too deep for a patch and has too many values behind that, pointer finds the second.
	both := list(lists(31, null), nulls(40000))
	refuses(t, both, api.ErrNodes, replaces("/0/0", list(lists(31, null), nulls(30000))))
	refuses(t, both, api.ErrDeep, replaces("/0/0", lists(31, null)))
}

func TestLimitsOfAPrintedPatch(t *testing.T) {
	big := func(n int) api.Step { return adds("/a", nulls(n)) }
	for _, c := range []struct {
		l  []api.Step
		at int
		e  api.Errno
	}{
		{[]api.Step{big(65531)}, -1, api.OK}, // list, map, op, path, the list, its values: 65536
		{[]api.Step{big(65532)}, -1, api.ErrNodes},
		{[]api.Step{big(65535)}, -1, api.ErrNodes},
		{[]api.Step{big(65535), big(65535)}, -1, api.ErrNodes},
		{[]api.Step{big(65536)}, 0, api.ErrNodes},
		{[]api.Step{big(65535), {Op: "put"}}, 1, api.ErrPatchShape},
		{[]api.Step{big(65535), removes("x")}, 1, api.ErrPointer},
		{[]api.Step{removes("/" + strings.Repeat("x", 1048576-1-len("oppathremove")))}, -1, api.OK},
		{[]api.Step{removes("/" + strings.Repeat("x", 1048576-len("oppathremove")))}, -1, api.ErrBytes},
		{[]api.Step{removes("/" + strings.Repeat("x", 1048576)), big(65535)}, -1, api.ErrBytes},
		{[]api.Step{big(65535), removes("/" + strings.Repeat("x", 1048576))}, -1, api.ErrNodes},
		{[]api.Step{moves("/"+strings.Repeat("x", 600000), "/"+strings.Repeat("x", 600000))}, -1, api.ErrBytes},
		{[]api.Step{adds("", text(strings.Repeat("x", 1048576)))}, -1, api.ErrBytes},
	} {
		v, at, e := Print(c.l)
		if at != c.at || e != c.e || e != api.OK && !same(v, null) {
			t.Errorf("P6.2: Print(%s) = %s, %d, %d, want %d, %d", tell(c.l), show(v), at, e, c.at, c.e)
		}
		checkPrint(t, c.l)
		if e == api.OK {
			if l, at, e := Parse(v); at != -1 || e != api.OK || !alike(l, c.l) {
				t.Errorf("P6.6: Parse of Print(%s) = %s, %d, %d", tell(c.l), tell(l), at, e)
			}
		}
	}
}

func TestDiffExamples(t *testing.T) {
	for _, c := range [][3]string{
		{`{"a":1,"b":[1,2,3]}`, `{"b":[1,3],"c":0}`, `[{"op":"remove","path":"/a"},{"op":"remove","path":"/b/1"},{"op":"add","path":"/c","value":0}]`},
		{`[1,2,3]`, `[1,9,8,7,3]`, `[{"op":"replace","path":"/1","value":9},{"op":"add","path":"/2","value":8},{"op":"add","path":"/3","value":7}]`},
		{`[1,9,8,7,3]`, `[1,2,3]`, `[{"op":"replace","path":"/1","value":2},{"op":"remove","path":"/3"},{"op":"remove","path":"/2"}]`},
		{`[1,1]`, `[1]`, `[{"op":"remove","path":"/1"}]`},
		{`[1]`, `[1,1,1]`, `[{"op":"add","path":"/1","value":1},{"op":"add","path":"/2","value":1}]`},
		{`[1,2,1]`, `[1]`, `[{"op":"remove","path":"/2"},{"op":"remove","path":"/1"}]`},
		{`[1,2,1,2]`, `[1,2]`, `[{"op":"remove","path":"/3"},{"op":"remove","path":"/2"}]`},
		{`[1,2,3,4]`, `[3,4]`, `[{"op":"remove","path":"/1"},{"op":"remove","path":"/0"}]`},
		{`[]`, `[null]`, `[{"op":"add","path":"/0","value":null}]`},
		{`[[1],[2],[3]]`, `[[1,2],[2],[4]]`, `[{"op":"add","path":"/0/1","value":2},{"op":"replace","path":"/2/0","value":4}]`},
		{`5`, `{}`, `[{"op":"replace","path":"","value":{}}]`},
		{`[]`, `{}`, `[{"op":"replace","path":"","value":{}}]`},
		{`{}`, `[]`, `[{"op":"replace","path":"","value":[]}]`},
		{`null`, `false`, `[{"op":"replace","path":"","value":false}]`},
		{`0`, `null`, `[{"op":"replace","path":"","value":null}]`},
		{`{"a":null}`, `{}`, `[{"op":"remove","path":"/a"}]`},
		{`{}`, `{"a":null}`, `[{"op":"add","path":"/a","value":null}]`},
		{`{"a/~":{"x":1}}`, `{"a/~":{"x":[]}}`, `[{"op":"replace","path":"/a~1~0/x","value":[]}]`},
		{`{"a":2,"b":1,"c":3}`, `{"b":1}`, `[{"op":"remove","path":"/c"},{"op":"remove","path":"/a"}]`},
		{`{"b":{"x":1},"d":1}`, `{"a":1,"b":{"y":1},"c":1,"d":2}`, `[{"op":"add","path":"/a","value":1},{"op":"remove","path":"/b/x"},{"op":"add","path":"/b/y","value":1},{"op":"add","path":"/c","value":1},{"op":"replace","path":"/d","value":2}]`},
		{`{"":{"":1}}`, `{"":{"":2}}`, `[{"op":"replace","path":"//","value":2}]`},
		{`{"0":[1],"-":2}`, `{"0":[1,2]}`, `[{"op":"remove","path":"/-"},{"op":"add","path":"/0/1","value":2}]`},
		{`[[]]`, `[[]]`, `[]`},
	} {
		a, b := read(c[0]), read(c[1])
		l, e := Diff(a, b)
		v, _, f := Print(l)
		if e != api.OK || f != api.OK || show(v) != show(read(c[2])) {
			t.Errorf("P6.4: Diff(%s, %s) = %s, %d, want %s", c[0], c[1], show(v), e, c[2])
		}
		checkDiff(t, a, b)
		applies(t, a, l, show(b), -1, api.OK)
	}
}

func TestDiffsOfManySteps(t *testing.T) {
	for _, n := range []int{255, 256, 257, 258, 40000} {
		want := api.OK
		if n > 256 {
			want = api.ErrPatchSteps
		}
		ones := list(slices.Repeat([]api.Value{num(1)}, n)...)
		for _, c := range [][2]api.Value{
			{list(), nulls(n)}, {nulls(n), list()}, {nulls(n), ones}, {keyed(n, "a", null), object()}, {object(), keyed(n, "a", null)}, {keyed(n, "a", null), keyed(n, "a", list())},
			{list(keyed(n-1, "a", null), num(1)), list(object(), num(2))}, {object(at("a", nulls(n-1))), object(at("a", list()), at("b", null))},
		} {
			l, e := Diff(c[0], c[1])
			if e != want || e == api.OK && len(l) != n || e != api.OK && len(l) != 0 {
				t.Errorf("P6.4: %d steps: %d, %d", n, len(l), e)
			}
			checkDiff(t, c[0], c[1])
		}
	}
	// Half of them go, half of them come.
	l, e := Diff(keyed(128, "a", null), keyed(128, "b", null))
	if e != api.OK || len(l) != 256 {
		t.Errorf("P6.4: 128 go, 128 come: %d, %d", len(l), e)
	}
	if l, e := Diff(keyed(128, "a", null), keyed(129, "b", null)); e != api.ErrPatchSteps || len(l) != 0 {
		t.Errorf("P6.4: 128 go, 129 come: %d, %d", len(l), e)
	}
}

// Large values that are nearly the same, and long keys above many places.
func TestLargeDiffs(t *testing.T) {
	a, b := keyed(65000, "k", num(1)), keyed(65000, "k", num(1))
	b.Map[100].Val, b.Map[64000].Val = null, list()
	checkDiff(t, a, b)
	c, d := nulls(65000), nulls(65000)
	d.List[1], d.List[64999] = num(1), num(2)
	checkDiff(t, c, d)
	checkDiff(t, lists(31, c), lists(31, list(append([]api.Value{num(7)}, d.List...)...)))
	key := strings.Repeat("k/", 200000)
	l, e := Diff(object(at(key, c)), object(at(key, d)))
	if e != api.OK || len(l) != 2 || l[0].Path != "/"+strings.Repeat("k~1", 200000)+"/1" {
		t.Errorf("P6.4: below a long key: %d steps, %d", len(l), e)
	}
	whole := list(slices.Repeat([]api.Value{num(1)}, 65000)...)
	if l, e := Diff(object(at(key, c)), object(at(key, whole))); e != api.ErrPatchSteps || len(l) != 0 {
		t.Errorf("P6.4: many places below a long key: %d steps, %d", len(l), e)
	}
}

func TestNilAndEmpty(t *testing.T) {
	empty := api.Value{Kind: api.Map, Map: []api.Member{}, List: []api.Value{}}
	none := api.Value{Kind: api.List, List: []api.Value{}, Map: []api.Member{}}
	checkDiff(t, object(at("a", empty), at("b", none)), object(at("a", object()), at("b", list())))
	checkDiff(t, list(none), list(list()))
	applies(t, list(none), []api.Step{tests("/0", list()), replaces("/0", empty), tests("/0", object())}, "[{}]", -1, api.OK)
	checkParse(t, none)
	checkPrint(t, []api.Step{})
	applies(t, none, []api.Step{}, "[]", -1, api.OK)
}

func TestManyPicked(t *testing.T) {
	r, done, errors := rand.New(rand.NewSource(6)), 0, map[api.Errno]int{}
	for range 8000 {
		v := pick(r, 4)
		l := pickPatch(r, v, r.Intn(8))
		if len(l) > 0 && r.Intn(4) == 0 {
			i := r.Intn(len(l))
			l[i] = spoil(r, l[i])
		}
		checkApply(t, v, l)
		checkPrint(t, l)
		if _, _, e := Apply(v, l); e == api.OK {
			done++
		} else {
			errors[e]++
		}
		checkDiff(t, v, near(r, v, 4))
		checkDiff(t, v, pick(r, 3))
		if t.Failed() {
			return
		}
	}
	for _, e := range []api.Errno{api.ErrValue, api.ErrDeep, api.ErrPointer, api.ErrPlace, api.ErrIndex, api.ErrPatchShape, api.ErrPatchTest, api.ErrPatchMove} {
		if errors[e] < 10 {
			t.Errorf("the error %d was met %d times", e, errors[e])
		}
	}
	if done < 2000 {
		t.Errorf("only %d patches could be done", done)
	}
}

// Values near the value of a patch: members gone, more, or with other values.
func TestManyPickedTexts(t *testing.T) {
	r, tried := rand.New(rand.NewSource(61)), map[api.Errno]int{}
	parts := []api.Value{null, num(1), text("add"), text("move"), text("test"), text("remove"), text("/a"), text("~"), text(""), list(), object(), lists(33, null)}
	for range 12000 {
		v := pick(r, 3)
		w, _, _ := Print(pickPatch(r, v, 1+r.Intn(4)))
		for i := range w.List {
			m := members(w.List[i])
			key := []string{"op", "path", "from", "value", "x"}[r.Intn(5)]
			switch r.Intn(6) {
			case 0:
				delete(m, key)
			case 1:
				m[key] = parts[r.Intn(len(parts))]
			}
			w.List[i] = made(m)
			if r.Intn(30) == 0 {
				w.List[i] = parts[r.Intn(len(parts))]
			}
		}
		checkParse(t, w)
		_, _, e := Parse(w)
		tried[e]++
		if t.Failed() {
			return
		}
	}
	for _, e := range []api.Errno{api.OK, api.ErrPatchShape, api.ErrPointer, api.ErrDeep} {
		if tried[e] < 10 {
			t.Errorf("the outcome %d was met %d times", e, tried[e])
		}
	}
}

// Every Op with every short text of a place, on one small value.
func TestEveryShortStep(t *testing.T) {
	v := read(`{"":[0],"a":[1,[2]],"b":{"a":3,"-":4}}`)
	texts := []string{""}
	for range 2 {
		for _, p := range slices.Clone(texts) {
			for _, s := range []string{"", "/", "/a", "/b", "/-", "/0", "/1", "/2", "/c", "/01", "~"} {
				texts = append(texts, p+s)
			}
		}
	}
	slices.Sort(texts)
	texts = slices.Compact(texts)
	for _, op := range slices.Sorted(maps.Keys(uses)) {
		for _, p := range texts {
			s := api.Step{Op: op, Path: p}
			if uses[op] != "from" {
				x, _ := grow(v).down(tokensOf(strings.ReplaceAll(p, "~", "")))
				for _, y := range []api.Value{null, num(3), list(num(2))} {
					if uses[op] == "value" {
						s.Value = y
					}
					checkApply(t, v, []api.Step{s})
				}
				if x != nil && op == "test" {
					s.Value = x.value()
					checkApply(t, v, []api.Step{s})
				}
				continue
			}
			for _, s.From = range texts {
				checkApply(t, v, []api.Step{s})
			}
		}
		if t.Failed() {
			return
		}
	}
}

// A fault inside one step leaves what was handed in as it was, and answers nothing of what was done ahead of it.
func TestNothingOfAPatchThatFails(t *testing.T) {
	v := read(doc)
	w, at, e := Apply(v, []api.Step{replaces("/a/0", num(7)), adds("/b", null), removes("/c")})
	if at != 2 || e != api.ErrPlace || !same(w, null) || show(v) != doc || value.Check(v, 32) != api.OK {
		t.Errorf("P6.3, P6.7: %s, %d, %d, and %s", show(w), at, e, show(v))
	}
}
