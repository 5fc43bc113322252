package pointer

import (
	"math/rand"
	"slices"
	"strconv"
	"strings"
	"testing"

	"freehold/api"
	"freehold/value"
)

const example = `{"":4,"a":[1,2],"a/b":{"~":3}}`

// outcome is what one call answered; was is the second value of Take.
type outcome struct {
	v, was api.Value
	kids   []string
	e      api.Errno
}

func (a outcome) is(b outcome) bool {
	return a.e == b.e && same(a.v, b.v) && same(a.was, b.was) && slices.Equal(a.kids, b.kids)
}

// calls is every call of a place by its name and promise, beside what the document asks of it.
var calls = []struct {
	name   string
	does   func(v api.Value, p string, x api.Value) outcome
	wants  func(v api.Value, p string, x api.Value) outcome
	takesX bool
}{
	{"P4.2: Get", func(v api.Value, p string, _ api.Value) (o outcome) { o.v, o.e = Get(v, p); return }, func(v api.Value, p string, _ api.Value) (o outcome) { o.v, o.e = wantGet(v, p); return }, false},
	{"P4.3: Set", func(v api.Value, p string, x api.Value) (o outcome) { o.v, o.e = Set(v, p, x); return }, func(v api.Value, p string, x api.Value) (o outcome) { o.v, o.e = wantSet(v, p, x); return }, true},
	{"P4.4: Add", func(v api.Value, p string, x api.Value) (o outcome) { o.v, o.e = Add(v, p, x); return }, func(v api.Value, p string, x api.Value) (o outcome) { o.v, o.e = wantAdd(v, p, x); return }, true},
	{"P4.5: Take", func(v api.Value, p string, _ api.Value) (o outcome) { o.v, o.was, o.e = Take(v, p); return }, func(v api.Value, p string, _ api.Value) (o outcome) { o.v, o.was, o.e = wantTake(v, p); return }, false},
	{"P4.6: Kids", func(v api.Value, p string, _ api.Value) (o outcome) { o.kids, o.e = Kids(v, p); return }, func(v api.Value, p string, _ api.Value) (o outcome) { o.kids, o.e = wantKids(v, p); return }, false},
}

// checkErrors holds one error against each call.
func checkErrors(t *testing.T, why string, v api.Value, p string, x api.Value, want api.Errno) {
	t.Helper()
	for _, c := range calls {
		if o := c.does(v, p, x); !o.is(outcome{e: want}) {
			t.Errorf("%s: %s: %d, want %d; with %s, %s, %q", c.name, why, o.e, want, show(o.v), show(o.was), o.kids)
		}
	}
}

func TestGetExamples(t *testing.T) {
	v := read(example)
	for p, want := range map[string]string{"/a/1": "2", "/a/0": "1", "/a~1b/~0": "3", "/": "4", "": example, "/a": "[1,2]", "/a~1b": `{"~":3}`} {
		if x, e := Get(v, p); e != api.OK || show(x) != want {
			t.Errorf("P4.2: Get(%q) = %s, %d, want %s", p, show(x), e, want)
		}
	}
	for p, want := range map[string]api.Errno{
		"/b": api.ErrPlace, "/a/0/x": api.ErrPlace, "//": api.ErrPlace, "/a~1b/": api.ErrPlace, "/a~1b/~01": api.ErrPlace, "/b/0": api.ErrPlace, "/a/0/0": api.ErrPlace,
		"/a/2": api.ErrIndex, "/a/01": api.ErrIndex, "/a/-": api.ErrIndex, "/a/x": api.ErrIndex, "/a/": api.ErrIndex, "/a/2/0": api.ErrIndex, "/a/-/0": api.ErrIndex,
		"a": api.ErrPointer, "/a/~": api.ErrPointer, "/b/~": api.ErrPointer, "/\xff": api.ErrPointer,
	} {
		if x, e := Get(v, p); e != want || !same(x, null) {
			t.Errorf("P4.2: Get(%q) = %s, %d, want %d", p, show(x), e, want)
		}
	}
}

func TestSetExamples(t *testing.T) {
	v := read(example)
	for p, want := range map[string]string{"/a/0": `{"":4,"a":[9,2],"a/b":{"~":3}}`, "/a/1": `{"":4,"a":[1,9],"a/b":{"~":3}}`, "/a~1b/~0": `{"":4,"a":[1,2],"a/b":{"~":9}}`, "/a": `{"":4,"a":9,"a/b":{"~":3}}`, "/": `{"":9,"a":[1,2],"a/b":{"~":3}}`, "": "9"} {
		if x, e := Set(v, p, num(9)); e != api.OK || show(x) != want {
			t.Errorf("P4.3: Set(%q) = %s, %d, want %s", p, show(x), e, want)
		}
	}
	for p, want := range map[string]api.Errno{"/b": api.ErrPlace, "/a/2": api.ErrIndex, "/a/-": api.ErrIndex, "/a/0/0": api.ErrPlace, "/~": api.ErrPointer} {
		if x, e := Set(v, p, num(9)); e != want || !same(x, null) {
			t.Errorf("P4.3: Set(%q) = %s, %d, want %d", p, show(x), e, want)
		}
	}
}

func TestAddExamples(t *testing.T) {
	v, rest := read(example), `,"a/b":{"~":3}}`
	for p, want := range map[string]string{
		"/a/0": `{"":4,"a":[9,1,2]` + rest, "/a/1": `{"":4,"a":[1,9,2]` + rest, "/a/2": `{"":4,"a":[1,2,9]` + rest, "/a/-": `{"":4,"a":[1,2,9]` + rest,
		"/b": `{"":4,"a":[1,2],"a/b":{"~":3},"b":9}`, "/a": `{"":4,"a":9` + rest, "/": `{"":9,"a":[1,2]` + rest, "/-": `{"":4,"-":9,"a":[1,2]` + rest, "/0": `{"":4,"0":9,"a":[1,2]` + rest,
		"/a~1b/": `{"":4,"a":[1,2],"a/b":{"":9,"~":3}}`, "/a~1b/~0~1": `{"":4,"a":[1,2],"a/b":{"~":3,"~/":9}}`, "/a~1b/~0": `{"":4,"a":[1,2],"a/b":{"~":9}}`, "": "9",
	} {
		if x, e := Add(v, p, num(9)); e != api.OK || show(x) != want {
			t.Errorf("P4.4: Add(%q) = %s, %d, want %s", p, show(x), e, want)
		}
	}
	for p, want := range map[string]api.Errno{
		"/a/3": api.ErrIndex, "/a/02": api.ErrIndex, "/a/00": api.ErrIndex, "/a/": api.ErrIndex, "/a/--": api.ErrIndex, "/a/-1": api.ErrIndex, "/a/+1": api.ErrIndex, "/a/x": api.ErrIndex, "/a/-/0": api.ErrIndex, "/a/2/0": api.ErrIndex,
		"/b/c": api.ErrPlace, "/a/0/x": api.ErrPlace, "/a/0/-": api.ErrPlace, "//0": api.ErrPlace, "/a~1b/~0/-": api.ErrPlace, "/b/-": api.ErrPlace, "x": api.ErrPointer,
	} {
		if x, e := Add(v, p, num(9)); e != want || !same(x, null) {
			t.Errorf("P4.4: Add(%q) = %s, %d, want %d", p, show(x), e, want)
		}
	}
	for p, want := range map[string]string{"/-": "[9]", "/0": "[9]"} {
		if x, e := Add(list(), p, num(9)); e != api.OK || show(x) != want {
			t.Errorf("P4.4: Add([], %q) = %s, %d, want %s", p, show(x), e, want)
		}
	}
}

func TestTakeExamples(t *testing.T) {
	v := read(example)
	for p, want := range map[string][2]string{
		"/a/0": {`{"":4,"a":[2],"a/b":{"~":3}}`, "1"}, "/a/1": {`{"":4,"a":[1],"a/b":{"~":3}}`, "2"}, "/": {`{"a":[1,2],"a/b":{"~":3}}`, "4"},
		"/a~1b/~0": {`{"":4,"a":[1,2],"a/b":{}}`, "3"}, "/a": {`{"":4,"a/b":{"~":3}}`, "[1,2]"}, "/a~1b": {`{"":4,"a":[1,2]}`, `{"~":3}`},
	} {
		if x, was, e := Take(v, p); e != api.OK || show(x) != want[0] || show(was) != want[1] {
			t.Errorf("P4.5: Take(%q) = %s, %s, %d, want %q", p, show(x), show(was), e, want)
		}
	}
	for p, want := range map[string]api.Errno{"": api.ErrPlace, "/b": api.ErrPlace, "/a/0/x": api.ErrPlace, "/a/2": api.ErrIndex, "/a/-": api.ErrIndex, "/a/00": api.ErrIndex, "a": api.ErrPointer} {
		if x, was, e := Take(v, p); e != want || !same(x, null) || !same(was, null) {
			t.Errorf("P4.5: Take(%q) = %s, %s, %d, want %d", p, show(x), show(was), e, want)
		}
	}
	if _, _, e := Take(num(5), "/a"); e != api.ErrPlace {
		t.Errorf("P4.5: Take(5, /a): %d", e)
	}
}

func TestKidsExamples(t *testing.T) {
	v := read(example)
	for p, want := range map[string][]string{"": {"", "a", "a/b"}, "/a": {"0", "1"}, "/a/0": nil, "/a~1b": {"~"}, "/": nil} {
		if l, e := Kids(v, p); e != api.OK || !slices.Equal(l, want) {
			t.Errorf("P4.6: Kids(%q) = %q, %d, want %q", p, l, e, want)
		}
	}
	for _, x := range []api.Value{null, num(0), text("ab"), {Kind: api.Bool, Bool: true}, list(), object()} {
		if l, e := Kids(x, ""); e != api.OK || len(l) != 0 {
			t.Errorf("P4.6: Kids(%s) = %q, %d", show(x), l, e)
		}
	}
	l, e := Kids(nulls(12), "")
	if e != api.OK || strings.Join(l, " ") != "0 1 2 3 4 5 6 7 8 9 10 11" {
		t.Errorf("P4.6: Kids of twelve = %q, %d", l, e)
	}
}

// Of a list of n values the numbers from 0 to n - 1 are indices, each in one way; all else is none.
func TestIndices(t *testing.T) {
	for _, n := range []int{0, 1, 2, 9, 10, 11, 100, 101} {
		v := list()
		for i := range n {
			v.List = append(v.List, num(i))
		}
		for i := range n + 3 {
			p, want, more := "/"+strconv.Itoa(i), api.OK, api.OK
			if i >= n {
				want = api.ErrIndex
			}
			if i > n {
				more = api.ErrIndex
			}
			x, e := Get(v, p)
			_, f := Set(v, p, null)
			_, _, g := Take(v, p)
			_, h := Kids(v, p)
			_, k := Add(v, p, null)
			if e != want || f != want || g != want || h != want || k != more || e == api.OK && x.Int != i {
				t.Errorf("P4.2 to P4.6: %q of %d values: %d, %d, %d, %d, %d", p, n, e, f, g, h, k)
			}
		}
	}
	none := []string{"00", "01", "010", "+1", "-1", "-0", "+0", " 1", "1 ", "1.0", "1e0", "0x1", "0b1", "1_0", "\u0661", "\uff11", "", "x", "1x", "--", "-1", "18446744073709551616", "18446744073709551617", "9223372036854775808", "-9223372036854775808", "4294967296", "4294967297", strings.Repeat("0", 70), "1" + strings.Repeat("0", 70), "1\x00", "~1", "/"}
	for _, token := range none {
		checkErrors(t, "no index: "+token, list(null, null, null), pointerOf(token), null, api.ErrIndex)
		checkErrors(t, "no index on the way: "+token, list(list(null), list(null), null), pointerOf(token, "0"), null, api.ErrIndex)
	}
	checkErrors(t, "no index on the way: -", list(list(null)), "/-/0", null, api.ErrIndex)
}

// Tokens that are indices are mere keys of a map.
func TestKeysLikeIndices(t *testing.T) {
	v := read(`{"-":1,"0":2,"00":3,"1":4}`)
	for p, want := range map[string]int{"/-": 1, "/0": 2, "/00": 3, "/1": 4} {
		if x, e := Get(v, p); e != api.OK || x.Int != want {
			t.Errorf("P4.2: Get(%q) = %s, %d", p, show(x), e)
		}
		if x, was, e := Take(v, p); e != api.OK || len(x.Map) != 3 || was.Int != want {
			t.Errorf("P4.5: Take(%q) = %s, %s, %d", p, show(x), show(was), e)
		}
	}
	checkErrors(t, "no such key", v, "/2/0", null, api.ErrPlace)
	checkErrors(t, "below an integer", v, "/00/0", null, api.ErrPlace)
}

func TestNothingLiesBelowWhatHoldsNothing(t *testing.T) {
	for _, x := range []api.Value{null, num(1), text("abc"), text(""), {Kind: api.Bool, Bool: true}} {
		for _, p := range []string{"/", "/0", "/-", "/a", "/0/0"} {
			checkErrors(t, "below "+show(x), x, p, null, api.ErrPlace)
			checkErrors(t, "below "+show(x)+" in a list", list(x), "/0"+p, null, api.ErrPlace)
			checkErrors(t, "below "+show(x)+" in a map", object(at("k", x)), "/k"+p, null, api.ErrPlace)
		}
	}
}

// The order: v, the pointer, x, the place (from the root on), what came out.
func TestTheOrderOfErrors(t *testing.T) {
	v, long := read(example), text(strings.Repeat("x", api.MaxText+1))
	for _, p := range []string{"", "/a", "a", "/~", "/a/0/0/0", "/b/c", "/a/7"} {
		for _, x := range []api.Value{null, bad, long} {
			checkErrors(t, "v not good", bad, p, x, api.ErrValue)
			checkErrors(t, "v too deep", lists(41, null), p, x, api.ErrDeep)
			checkErrors(t, "v of too many values", nulls(65536), p, x, api.ErrNodes)
			checkErrors(t, "v of too many bytes", long, p, x, api.ErrBytes)
		}
	}
	for _, x := range []api.Value{null, bad, long} {
		checkErrors(t, "no pointer", v, "a", x, api.ErrPointer)
		checkErrors(t, "no pointer behind a place that is none", v, "/b/c/~", x, api.ErrPointer)
		checkErrors(t, "no pointer behind no index", v, "/a/9/\xff", x, api.ErrPointer)
	}
	for _, p := range []string{"", "/a", "/b", "/b/c", "/a/9", "/a/0/0", "/a/-"} {
		for x, want := range map[int]api.Errno{0: api.ErrValue, 1: api.ErrDeep, 2: api.ErrNodes, 3: api.ErrBytes} {
			for _, c := range calls {
				if c.takesX {
					o := c.does(v, p, []api.Value{bad, lists(41, null), nulls(65536), long}[x])
					if !o.is(outcome{e: want}) {
						t.Errorf("%s: %q: %d, want %d", c.name, p, o.e, want)
					}
				}
			}
		}
	}
	deep := lists(40, null)
	checkErrors(t, "no place, and too deep", v, "/b/c", deep, api.ErrPlace)
	checkErrors(t, "no index, and too deep", v, "/a/7", deep, api.ErrIndex)
	checkErrors(t, "no place first", v, "/b/0/7", null, api.ErrPlace)
	checkErrors(t, "no index first", list(object()), "/1/k/k", null, api.ErrIndex)
	checkErrors(t, "no place first", list(object()), "/0/k/9", null, api.ErrPlace)
	checkErrors(t, "many tokens", v, strings.Repeat("/a", 100000), null, api.ErrIndex)
}

func TestAnswersThatAreTooDeep(t *testing.T) {
	for n := range 41 {
		v, p := lists(n, list(null)), strings.Repeat("/0", n)
		for d := 36 - n; d <= 40; d++ {
			if d < 0 {
				continue
			}
			want := api.OK
			if n+d+1 > 40 {
				want = api.ErrDeep
			}
			if n == 40 {
				want = api.ErrDeep // v itself
			}
			x := lists(d, null)
			_, e := Set(v, p+"/0", x)
			_, f := Add(v, p+"/-", x)
			if e != want || f != want {
				t.Errorf("P4.3, P4.4: %d deep, %d levels below: %d, %d, want %d", d, n+1, e, f, want)
			}
		}
	}
	if x, e := Set(lists(40, null), "", lists(40, null)); e != api.OK || value.Depth(x) != 40 {
		t.Errorf("P4.3: at the root: %d", e)
	}
	if x, e := Add(num(1), "", lists(40, null)); e != api.OK || value.Depth(x) != 40 {
		t.Errorf("P4.4: at the root: %d", e)
	}
	if _, e := Add(object(), "/k", lists(40, null)); e != api.ErrDeep {
		t.Errorf("P4.4: a key's value 40 deep: %d", e)
	}
}

func TestAnswersThatAreTooLarge(t *testing.T) {
	full, text1 := nulls(65535), text(strings.Repeat("x", api.MaxText))
	for _, c := range []struct {
		what     string
		v        api.Value
		p        string
		x        api.Value
		set, add api.Errno
	}{
		{"one in the stead of one", full, "/65534", null, api.OK, api.ErrNodes},
		{"two in the stead of one", full, "/0", list(null), api.ErrNodes, api.ErrNodes},
		{"the last one that may be", nulls(65534), "/0", null, api.OK, api.OK},
		{"the last two", nulls(65534), "/65533", list(null), api.OK, api.ErrNodes},
		{"all in the stead of all", full, "", full, api.OK, api.OK},
		{"all in the stead of one", list(null), "/0", full, api.ErrNodes, api.ErrNodes},
		{"all but one in the stead of one", list(null), "/0", nulls(65534), api.OK, api.ErrNodes},
		{"all but one in the stead of a key's", object(at("k", full)), "/k", nulls(65534), api.ErrNodes, api.ErrNodes},
		{"all but one in the stead of a key's", object(at("k", null)), "/k", nulls(65534), api.OK, api.OK},
		{"too many bytes", list(text1, text("")), "/1", text("y"), api.ErrBytes, api.ErrBytes},
		{"as many bytes", list(text1, text("")), "/0", text("y"), api.OK, api.ErrBytes},
		{"bytes in the stead of bytes", text1, "", text1, api.OK, api.OK},
		{"a key too much", object(at("k", text(text1.Str[2:]))), "/kk", null, api.ErrPlace, api.ErrBytes},
		{"a key that has room", object(at("k", text(text1.Str[3:]))), "/kk", null, api.ErrPlace, api.OK},
		{"an empty key", object(at("k", text(text1.Str[1:]))), "/", null, api.ErrPlace, api.OK},
		{"too deep ahead of too many", list(null, nulls(65533)), "/0", lists(40, null), api.ErrDeep, api.ErrDeep},
		{"too many ahead of too deep", list(nulls(65533), null), "/1", lists(40, null), api.ErrNodes, api.ErrNodes},
		{"too many bytes ahead of too deep", list(text1, null), "/1", list(text("y"), lists(39, null)), api.ErrBytes, api.ErrBytes},
		{"too deep ahead of too many bytes", list(text1, null), "/1", list(lists(39, null), text("y")), api.ErrDeep, api.ErrDeep},
	} {
		v, e := Set(c.v, c.p, c.x)
		w, f := Add(c.v, c.p, c.x)
		if e != c.set || f != c.add || e != api.OK && !same(v, null) || f != api.OK && !same(w, null) {
			t.Errorf("P4.3, P4.4: %s: %d, %d, want %d, %d", c.what, e, f, c.set, c.add)
		}
	}
	if rest, was, e := Take(full, "/65534"); e != api.OK || len(rest.List) != 65534 || !same(was, null) {
		t.Errorf("P4.5: of 65536 values: %d", e)
	}
	if l, e := Kids(full, ""); e != api.OK || len(l) != 65535 || l[65534] != "65534" {
		t.Errorf("P4.6: of 65536 values: %d", e)
	}
}

func TestValuesThatLieWithinThemselves(t *testing.T) {
	l := []api.Value{null, null}
	l[1] = list(l...)
	checkErrors(t, "v in itself", list(l...), "/1", null, api.ErrDeep)
	m := []api.Member{at("k", null)}
	m[0].Val = object(m...)
	checkErrors(t, "v in itself", object(m...), "/k/k", null, api.ErrDeep)
	_, e := Set(num(1), "/a", list(l...))
	_, f := Add(num(1), "", object(m...))
	if e != api.ErrDeep || f != api.ErrDeep {
		t.Errorf("P4.3, P4.4: x in itself: %d, %d", e, f)
	}
}

// Every short pointer of some values.
func TestEveryShortPlace(t *testing.T) {
	pointers := []string{""}
	for range 5 {
		for _, p := range pointers[:len(pointers):len(pointers)] {
			for _, s := range []string{"/", "~", "0", "1", "-", "a"} {
				pointers = append(pointers, p+s)
			}
		}
		slices.Sort(pointers)
		pointers = slices.Compact(pointers)
	}
	for _, s := range []string{"5", "[]", "{}", example, `[[],[0,[1]],{"":{"":[]}}]`, `{"":{"":1,"-":[[2]]},"0":[3,4],"1":{"1":5},"a":{"a":[6]},"~":{"/":7,"~0":8}}`} {
		v := read(s)
		for _, p := range pointers {
			for _, c := range calls {
				if got, want := c.does(v, p, num(9)), c.wants(v, p, num(9)); !got.is(want) {
					t.Fatalf("%s(%s, %q): %s, %s, %q, %d, want %s, %s, %q, %d", c.name, s, p, show(got.v), show(got.was), got.kids, got.e, show(want.v), show(want.was), want.kids, want.e)
				}
			}
		}
	}
}

func TestPlacesByTheWords(t *testing.T) {
	r, seen := rand.New(rand.NewSource(4)), map[string]int{}
	for i := range 40000 {
		v, x := pick(r, 5), pick(r, 3)
		p := pickPlace(r, v)
		if i%50 == 0 {
			n := 35 + r.Intn(5)
			v, p = lists(n, v), strings.Repeat("/0", n)+p
		}
		if i%97 == 0 {
			x = lists(30+r.Intn(12), x)
		}
		for _, c := range calls {
			got, want := c.does(v, p, x), c.wants(v, p, x)
			seen[c.name+": "+strconv.Itoa(int(want.e))]++
			if !got.is(want) {
				t.Fatalf("%s(%s, %q, %s): %s, %s, %q, %d, want %s, %s, %q, %d", c.name, show(v), p, show(x), show(got.v), show(got.was), got.kids, got.e, show(want.v), show(want.was), want.kids, want.e)
			}
		}
	}
	for _, c := range calls {
		for _, e := range []api.Errno{api.OK, api.ErrPointer, api.ErrPlace, api.ErrIndex} {
			if seen[c.name+": "+strconv.Itoa(int(e))] < 100 {
				t.Errorf("%s: few places with the answer %d were tried", c.name, e)
			}
		}
	}
}
