package mergepatch

import (
	"math/rand"
	"strings"
	"testing"

	"freehold/api"
)

func checkApply(t *testing.T, a, p api.Value) {
	t.Helper()
	v, e := Apply(a, p)
	if want, f := wantApply(a, p); e != f || !same(v, want) {
		t.Errorf("P5.1: %s by %s: %s, %d, want %s, %d", show(a), show(p), show(v), e, show(want), f)
	}
}

func checkClean(t *testing.T, v api.Value) {
	t.Helper()
	w, e := Clean(v)
	if want, f := wantClean(v); e != f || !same(w, want) {
		t.Errorf("P5.2: Clean(%s) = %s, %d, want %s, %d", show(v), show(w), e, show(want), f)
	}
}

func checkDiff(t *testing.T, a, b api.Value) {
	t.Helper()
	p, ok, e := Diff(a, b)
	if want, good, f := wantDiff(a, b); ok != good || e != f || !same(p, want) {
		t.Errorf("P5.3, P5.4: Diff(%s, %s) = %s, %v, %d, want %s, %v, %d", show(a), show(b), show(p), ok, e, show(want), good, f)
	}
}

func TestApplyExamples(t *testing.T) {
	for _, c := range [][3]string{
		{`{"a":"b"}`, `{"a":"c"}`, `{"a":"c"}`},
		{`{"a":"b"}`, `{"b":"c"}`, `{"a":"b","b":"c"}`},
		{`{"a":"b"}`, `{"a":null}`, `{}`},
		{`{"a":"b","b":"c"}`, `{"a":null}`, `{"b":"c"}`},
		{`{"a":["b"]}`, `{"a":"c"}`, `{"a":"c"}`},
		{`{"a":"c"}`, `{"a":["b"]}`, `{"a":["b"]}`},
		{`{"a":{"b":"c"}}`, `{"a":{"b":"d","c":null}}`, `{"a":{"b":"d"}}`},
		{`{"a":[{"b":"c"}]}`, `{"a":[1]}`, `{"a":[1]}`},
		{`["a","b"]`, `["c","d"]`, `["c","d"]`},
		{`{"a":"b"}`, `["c"]`, `["c"]`},
		{`{"a":"b"}`, `null`, `null`},
		{`{"a":"b"}`, `"bar"`, `"bar"`},
		{`{"e":null}`, `{"a":1}`, `{"a":1,"e":null}`},
		{`[1,2]`, `{"a":"b","c":null}`, `{"a":"b"}`},
		{`{}`, `{"a":{"bb":{"ccc":null}}}`, `{"a":{"bb":{}}}`},
		{`{"b":1,"d":2}`, `{"a":3,"c":4,"e":5}`, `{"a":3,"b":1,"c":4,"d":2,"e":5}`},
		{`{"a":{"x":{"y":null}}}`, `{"a":{"x":{}}}`, `{"a":{"x":{"y":null}}}`},
		{`{"a":1}`, `{"a":{"b":{"c":null,"d":2}}}`, `{"a":{"b":{"d":2}}}`},
		{`{"a":{"b":1}}`, `{"a":[{"b":null}]}`, `{"a":[{"b":null}]}`},
		{`5`, `{}`, `{}`},
		{`null`, `null`, `null`},
		{`{}`, `{"a":false,"b":0,"c":"","d":[],"e":{}}`, `{"a":false,"b":0,"c":"","d":[],"e":{}}`},
	} {
		v, e := Apply(read(c[0]), read(c[1]))
		if e != api.OK || !same(v, read(c[2])) {
			t.Errorf("P5.1: %s by %s: %s, %d, want %s", c[0], c[1], show(v), e, c[2])
		}
		checkApply(t, read(c[0]), read(c[1]))
	}
}

func TestCleanExamples(t *testing.T) {
	for _, c := range [][2]string{
		{`{"a":null,"b":{"c":null},"d":[{"e":null}]}`, `{"b":{},"d":[{"e":null}]}`},
		{`null`, `null`},
		{`[null]`, `[null]`},
		{`[{"a":null}]`, `[{"a":null}]`},
		{`{}`, `{}`},
		{`{"a":null}`, `{}`},
		{`false`, `false`},
		{`{"a":{"b":{"c":null,"d":{"e":null}}},"f":0}`, `{"a":{"b":{"d":{}}},"f":0}`},
	} {
		v, e := Clean(read(c[0]))
		if e != api.OK || !same(v, read(c[1])) {
			t.Errorf("P5.2: Clean(%s) = %s, %d, want %s", c[0], show(v), e, c[1])
		}
		checkClean(t, read(c[0]))
	}
}

func TestDiffExamples(t *testing.T) {
	for _, c := range [][3]string{
		{`{"a":1,"b":2}`, `{"b":3,"c":4}`, `{"a":null,"b":3,"c":4}`},
		{`{"a":{"x":1,"y":2}}`, `{"a":{"x":1}}`, `{"a":{"y":null}}`},
		{`{"a":1}`, `{"a":{}}`, `{"a":{}}`},
		{`[1]`, `[1]`, `[1]`},
		{`5`, `null`, `null`},
		{`null`, `null`, `null`},
		{`{"a":1}`, `null`, `null`},
		{`{"a":null}`, `{"a":null,"b":1}`, `{"b":1}`},
		{`{}`, `{"a":[null]}`, `{"a":[null]}`},
		{`{"a":null}`, `{}`, `{"a":null}`},
		{`{"a":null}`, `{"a":{}}`, `{"a":{}}`},
		{`{"a":{}}`, `{"a":[]}`, `{"a":[]}`},
		{`{"a":{}}`, `{}`, `{"a":null}`},
		{`{"a":{"b":null}}`, `{"a":{}}`, `{"a":{"b":null}}`},
		{`{"a":{"b":null}}`, `{"a":{"b":null},"c":{}}`, `{"c":{}}`},
		{`{"a":{"b":null,"c":1}}`, `{"a":{"b":null,"c":2}}`, `{"a":{"c":2}}`},
		{`{"a":{"b":{"c":1}}}`, `{"a":{"b":{"c":1,"d":{"e":[]}}}}`, `{"a":{"b":{"d":{"e":[]}}}}`},
		{`{"a":[{"b":null}]}`, `{"a":[{"b":null}]}`, `{}`},
		{`{"a":[1]}`, `{"a":[{"b":null}]}`, `{"a":[{"b":null}]}`},
		{`{}`, `{}`, `{}`},
		{`[]`, `{}`, `{}`},
		{`{}`, `[]`, `[]`},
		{`null`, `{"a":{"b":1}}`, `{"a":{"b":1}}`},
		{`{}`, `{"a":false,"b":0,"c":"","d":[],"e":{}}`, `{"a":false,"b":0,"c":"","d":[],"e":{}}`},
	} {
		p, ok, e := Diff(read(c[0]), read(c[1]))
		if !ok || e != api.OK || !same(p, read(c[2])) {
			t.Errorf("P5.3: Diff(%s, %s) = %s, %v, %d, want %s", c[0], c[1], show(p), ok, e, c[2])
		}
		checkDiff(t, read(c[0]), read(c[1]))
	}
}

func TestWhereNoPatchLeads(t *testing.T) {
	for _, c := range [][2]string{
		{`{}`, `{"a":null}`},
		{`{"a":1}`, `{"a":null}`},
		{`1`, `{"a":{"b":null}}`},
		{`{"a":[]}`, `{"a":{"b":null}}`},
		{`{}`, `{"a":{"b":null}}`},
		{`null`, `{"a":null}`},
		{`[{"a":null}]`, `{"a":null}`},
		{`{"a":{}}`, `{"a":null}`},
		{`{"a":{"b":1}}`, `{"a":{"b":null}}`},
		{`{"a":{"b":{"c":{"d":[]}}}}`, `{"a":{"b":{"c":{"d":[],"e":null}}}}`},
		{`{"a":null}`, `{"a":{"b":null}}`},
		{`{"a":1,"z":1}`, `{"a":2,"b":3,"z":null}`},
		{`{"b":null}`, `{"a":null,"b":null}`},
	} {
		p, ok, e := Diff(read(c[0]), read(c[1]))
		if ok || e != api.OK || !same(p, null) {
			t.Errorf("P5.4: Diff(%s, %s) = %s, %v, %d, want null, false", c[0], c[1], show(p), ok, e)
		}
		checkDiff(t, read(c[0]), read(c[1]))
	}
}

// The errors of arguments, from the left, with whatever else is wrong.
func TestWrongArguments(t *testing.T) {
	long := strings.Repeat("x", 1048577)
	within := []api.Member{at("k", null)}
	within[0].Val = object(within...)
	wrong := []struct {
		v api.Value
		e api.Errno
	}{
		{lists(33, null), api.ErrDeep},
		{objects(33, num(1)), api.ErrDeep},
		{objects(33, null), api.ErrDeep}, // what comes out would be within the limits: the argument is not
		{keyed(65536, "k", null), api.ErrNodes},
		{bad, api.ErrValue},
		{text("\xff"), api.ErrValue},
		{object(at("b", null), at("a", null)), api.ErrValue},
		{object(at("a", null), at("a", null)), api.ErrValue},
		{api.Value{Kind: api.Int, Map: []api.Member{at("a", null)}}, api.ErrValue},
		{object(at("a", list(bad))), api.ErrValue},
		{list(make([]api.Value, 65536)...), api.ErrNodes},
		{text(long), api.ErrBytes},
		{object(at(long, null)), api.ErrBytes},
		{object(within...), api.ErrDeep},
	}
	for i, c := range wrong {
		for _, good := range []api.Value{null, num(1), read(`{"a":1,"k":{"k":null}}`), read(`[1]`)} {
			checkWrong(t, i, c.v, good, c.e)
			checkWrong(t, i, good, c.v, c.e)
		}
		for k, d := range wrong {
			checkWrong(t, 100*i+k, c.v, d.v, c.e)
		}
		if v, e := Clean(c.v); e != c.e || !same(v, null) {
			t.Errorf("P5.2: the case %d: %d, want %d", i, e, c.e)
		}
	}
}

func checkWrong(t *testing.T, i int, a, b api.Value, want api.Errno) {
	t.Helper()
	if v, e := Apply(a, b); e != want || !same(v, null) {
		t.Errorf("P5.1: the case %d: %d, want %d", i, e, want)
	}
	if p, ok, e := Diff(a, b); e != want || ok || !same(p, null) {
		t.Errorf("P5.3: the case %d: %v, %d, want %d", i, ok, e, want)
	}
}

func TestAtMaxDepth(t *testing.T) {
	for n := 28; n <= 32; n++ {
		for _, x := range []api.Value{num(1), num(2), list(), object()} {
			checkApply(t, objects(n, num(1)), objects(n, x))
			checkApply(t, null, objects(n, x))
			checkDiff(t, objects(n, num(1)), objects(n, x))
			checkDiff(t, num(1), objects(n, x))
			checkClean(t, objects(n, x))
		}
		checkApply(t, objects(n, num(1)), objects(n, null))
		checkDiff(t, objects(n, num(1)), objects(n, null))
		checkDiff(t, objects(n, null), objects(n, null))
		checkDiff(t, objects(n, null), objects(n, num(1)))
		checkClean(t, objects(n, null))
		checkClean(t, lists(n, null))
		checkApply(t, lists(n, null), objects(n, lists(32-n, null)))
		checkDiff(t, lists(n, null), lists(32, null))
	}
}

func is(t *testing.T, what string, e, want api.Errno) {
	t.Helper()
	if e != want {
		t.Errorf("%s: %d, want %d", what, e, want)
	}
}

// What comes out is held against the limits, too, though what comes in is within them.
func TestLimitsOfWhatComesOut(t *testing.T) {
	one := num(1)
	for _, c := range []struct {
		a, b api.Value
		e    api.Errno
	}{
		{keyed(40000, "a", one), keyed(40000, "b", one), api.ErrNodes},
		{keyed(40000, "b", one), keyed(40000, "a", one), api.ErrNodes},
		{keyed(30000, "a", one), keyed(35535, "b", one), api.OK},
		{keyed(30000, "a", one), keyed(35536, "b", one), api.ErrNodes},
		{keyed(40000, "a", one), keyed(40000, "a", num(2)), api.OK},
		{object(at(strings.Repeat("a", 524288), one)), object(at(strings.Repeat("b", 524288), one)), api.OK},
		{object(at(strings.Repeat("a", 524288), one)), object(at(strings.Repeat("b", 524289), one)), api.ErrBytes},
		{object(at("k", object(at(strings.Repeat("a", 600000), one)))), object(at("k", object(at(strings.Repeat("b", 600000), one)))), api.ErrBytes},
		{object(at("k", keyed(40000, "a", one))), object(at("k", keyed(40000, "b", one))), api.ErrNodes},
	} {
		v, e := Apply(c.a, c.b)
		is(t, "P5.1: too much comes out", e, c.e)
		p, ok, f := Diff(c.a, c.b)
		is(t, "P5.3: too much comes out", f, c.e)
		if ok != (c.e == api.OK) || c.e != api.OK && (!same(v, null) || !same(p, null)) {
			t.Errorf("P5.3: %v beside %d", ok, f)
		}
		checkApply(t, c.a, c.b)
		checkDiff(t, c.a, c.b)
	}
}

func TestThatThereIsNoPatchComesAheadOfItsSize(t *testing.T) {
	a, b := keyed(40000, "a", num(1)), keyed(40000, "b", num(1))
	b.Map[39999].Val = null
	checkDiff(t, a, b)
	if p, ok, e := Diff(a, b); ok || e != api.OK || !same(p, null) {
		t.Errorf("P5.3: no patch leads there, and it would be too large: %v, %d", ok, e)
	}
}

// A patch that takes away makes room for what it brings.
func TestWhatGoesDoesNotCount(t *testing.T) {
	p := object(append(keyed(30000, "a", null).Map, keyed(30000, "b", num(1)).Map...)...)
	v, e := Apply(keyed(40000, "a", num(1)), p)
	if e != api.OK || len(v.Map) != 40000 || v.Map[0].Key != "a030000" {
		t.Errorf("P5.1: 30000 go and 30000 come: %d members, %d", len(v.Map), e)
	}
}

func TestManyPicked(t *testing.T) {
	r, found, none := rand.New(rand.NewSource(5)), 0, 0
	for range 40000 {
		a := pick(r, 4)
		b := near(r, a, 4)
		if r.Intn(4) == 0 {
			b = pick(r, 4)
		}
		checkApply(t, a, b)
		checkClean(t, a)
		checkDiff(t, a, b)
		if leads(a, b) {
			found++
		} else {
			none++
		}
		if t.Failed() {
			return
		}
	}
	if found < 5000 || none < 5000 {
		t.Errorf("few of a sort were tried: %d, %d", found, none)
	}
}

// Lists that are unlike only in nil and empty are the same.
func TestNilAndEmpty(t *testing.T) {
	empty := api.Value{Kind: api.Map, Map: []api.Member{}, List: []api.Value{}}
	none := api.Value{Kind: api.List, List: []api.Value{}, Map: []api.Member{}}
	checkDiff(t, object(at("a", empty), at("b", none)), object(at("a", object()), at("b", list())))
	checkApply(t, empty, object())
	checkApply(t, num(1), empty)
	if p, ok, e := Diff(object(at("a", none)), object(at("a", list()))); !ok || e != api.OK || len(p.Map) != 0 {
		t.Errorf("P5.3: nil and empty lists: %s, %v, %d", show(p), ok, e)
	}
}

func TestTogetherEndsEarly(t *testing.T) {
	a, b := read(`{"a":1,"c":2}`).Map, read(`{"b":3,"c":4,"d":5}`).Map
	for n := 1; n <= 4; n++ {
		keys := ""
		for key := range together(a, b) {
			keys += key
			if len(keys) == n {
				break
			}
		}
		if keys != "abcd"[:n] {
			t.Errorf("the first %d keys of two maps: %q", n, keys)
		}
	}
}

// A value whose parts are the same memory, many times over, is worked out part by part all the same.
func TestArgumentsThatAreOne(t *testing.T) {
	r := rand.New(rand.NewSource(6))
	for range 2000 {
		v := pick(r, 4)
		checkApply(t, v, v)
		checkDiff(t, v, v)
		both := object(at("a", v), at("b", v))
		checkApply(t, both, v)
		checkApply(t, v, both)
		checkDiff(t, both, v)
		checkDiff(t, v, both)
		if t.Failed() {
			return
		}
	}
}
