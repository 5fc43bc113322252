package json

import (
	"bytes"
	"math"
	"math/rand"
	"strings"
	"testing"

	"freehold/api"
	"freehold/value"
)

func checkPrint(t *testing.T, v api.Value, depth int, want string) {
	t.Helper()
	if b, e := Print(v, depth); e != api.OK || string(b) != want {
		t.Errorf("P3.2: Print(%+v, %d) = %s, %d, want %s, OK", v, depth, short(string(b)), e, short(want))
	}
}

func checkRefused(t *testing.T, what string, v api.Value, depth int, want api.Errno) {
	t.Helper()
	if b, e := Print(v, depth); e != want || b != nil {
		t.Errorf("P3.2: Print of %s, to the depth %d: %s, %d, want no text, %d", what, depth, short(string(b)), e, want)
	}
}

func TestPrint(t *testing.T) {
	for _, x := range []struct {
		v    api.Value
		want string
	}{
		{null, "null"}, {boolean(true), "true"}, {boolean(false), "false"}, {num(0), "0"}, {num(-1), "-1"}, {num(10), "10"}, {num(math.MaxInt64), "9223372036854775807"}, {num(math.MinInt64), "-9223372036854775808"},
		{text(""), `""`}, {text("a\"b\\"), `"a\"b\\"`}, {text("\b\t\n\f\r\x00\x1f\x7f/"), "\"\\b\\t\\n\\f\\r\\u0000\\u001f\x7f/\""}, {text("<&>\u00e9\u2028\U0001f600"), "\"<&>\u00e9\u2028\U0001f600\""},
		{list(), "[]"}, {list(null), "[null]"}, {list(num(2), num(1), list(), boolean(true)), "[2,1,[],true]"}, {list(text(","), text("]")), `[",","]"]`},
		{object(), "{}"}, {object(at("", null)), `{"":null}`}, {object(at("a\n", num(1)), at("b", object(at("c", text("d"))))), `{"a\n":1,"b":{"c":"d"}}`},
		{object(at("a", object()), at("b", list(num(1), num(0), text("x")))), `{"a":{},"b":[1,0,"x"]}`},
	} {
		checkPrint(t, x.v, api.MaxDepth, x.want)
		checkPrint(t, roomy(x.v), api.DeepRecord, x.want)
	}
}

func TestPrintRefuses(t *testing.T) {
	long := text(strings.Repeat("a", 1048577))
	for _, depth := range []int{-1, 41, math.MinInt, math.MaxInt} {
		checkRefused(t, "null", null, depth, api.ErrArg)
		checkRefused(t, "no value", api.Value{Kind: 9}, depth, api.ErrArg)
		checkRefused(t, "a long string", long, depth, api.ErrArg)
	}
	for _, v := range []api.Value{{Kind: 6}, {Kind: -1}, {Kind: api.Bool, Int: 1}, {Kind: api.Int, Str: "x"}, {Str: "x"}, text("\xff"), list(null, text("\xc3")), object(at("b", null), at("a", null)), object(at("a", null), at("a", null)), object(at("\xff", null)), object(at("a", api.Value{Kind: 7}))} {
		for _, depth := range []int{2, 32, 40} {
			checkRefused(t, "no good value", v, depth, api.ErrValue)
		}
	}
	for depth := range 41 {
		checkRefused(t, "a deep list", lists(depth+1, null), depth, api.ErrDeep)
		checkRefused(t, "a deep map", maps(depth+1, list()), depth, api.ErrDeep)
		checkPrint(t, lists(depth, null), depth, brackets(depth, "null"))
		checkPrint(t, maps(depth, list()), depth, strings.Repeat(`{"k":`, depth)+"[]"+strings.Repeat("}", depth))
	}
	checkRefused(t, "a long string", long, 32, api.ErrBytes)
	checkRefused(t, "too many values", list(make([]api.Value, 65536)...), 32, api.ErrNodes)
	within := list(null)
	within.List[0] = within
	checkRefused(t, "a list within itself", within, 40, api.ErrDeep)
	checkRefused(t, "a long text that is no good value", list(text(strings.Repeat("\x00", 1048000)), api.Value{Kind: 9}), 32, api.ErrValue)
}

func TestPrintLongTexts(t *testing.T) {
	a := strings.Repeat("a", 1048576)
	checkPrint(t, text(a[2:]), 32, `"`+a[2:]+`"`)
	checkRefused(t, "a string of 1048575 bytes", text(a[1:]), 32, api.ErrTextLong)
	checkRefused(t, "a string of 1048576 bytes", text(a), 32, api.ErrTextLong)
	checkPrint(t, list(text(a[4:])), 32, `["`+a[4:]+`"]`)
	checkRefused(t, "a list of a string", list(text(a[3:])), 32, api.ErrTextLong)
	checkPrint(t, object(at(a[9:], null)), 32, `{"`+a[9:]+`":null}`)
	checkRefused(t, "a map of a key", object(at(a[8:], null)), 32, api.ErrTextLong)
	zeros := strings.Repeat("\x00", 174762)
	checkPrint(t, text(zeros+"ab"), 32, `"`+strings.Repeat(`\u0000`, 174762)+`ab"`)
	checkRefused(t, "a string of escapes", text(zeros+"abc"), 32, api.ErrTextLong)
	checkRefused(t, "a longer string of escapes", text(strings.Repeat("\x00", 1048576)), 32, api.ErrTextLong)
	v := list()
	for range 49932 { // 21 bytes each with its comma; one bracket more
		v.List = append(v.List, num(math.MinInt64))
	}
	b, e := Print(v, 1)
	if e != api.OK || len(b) != 49932*21+1 {
		t.Errorf("P3.2: of many integers: %d bytes, %d", len(b), e)
	}
	v.List = append(v.List, num(1))
	if b, e := Print(v, 1); e != api.OK || len(b) != 1048575 {
		t.Errorf("P3.2: of many integers: %d bytes, %d", len(b), e)
	}
	v.List[len(v.List)-1] = num(10)
	if b, e := Print(v, 1); e != api.OK || len(b) != 1048576 {
		t.Errorf("P3.2: of many integers: %d bytes, %d", len(b), e)
	}
	v.List[len(v.List)-1] = num(100)
	checkRefused(t, "many integers", v, 1, api.ErrTextLong)
}

func TestPrintByTheWords(t *testing.T) {
	r := rand.New(rand.NewSource(34))
	for range 20000 {
		v := pick(r, 4)
		checkPrint(t, v, 4, wantPrint(v))
	}
}

func TestThereAndBack(t *testing.T) {
	r := rand.New(rand.NewSource(35))
	values := []api.Value{lists(40, null), maps(40, object()), lists(20, maps(20, text("\x00"))), list(make([]api.Value, 65535)...), text(strings.Repeat("\u00e9", 524287))}
	for range 20000 {
		values = append(values, pick(r, 5))
	}
	for _, v := range values {
		b, e := Print(v, 40)
		w, at, f := Parse(b, 40)
		if e != api.OK || f != api.OK || at != -1 || !same(v, w) {
			t.Fatalf("P3.5: Parse of the Print of %s: %d, %d, %d", short(wantPrint(v)), e, at, f)
		}
	}
	for range 20000 {
		s := loosely(r, pick(r, 4))
		v, _, e := Parse([]byte(s), 4)
		b, f := Print(v, 4)
		w, at, g := Parse(b, 4)
		if e != api.OK || f != api.OK || g != api.OK || at != -1 || !same(v, w) {
			t.Fatalf("P3.5: %q is read as %s, written as %q, and read as %s", s, wantPrint(v), b, wantPrint(w))
		}
	}
}

func TestOneText(t *testing.T) {
	pool := []api.Value{
		null, text("null"), text(""), list(), object(), boolean(true), text("true"), boolean(false), num(0), text("0"), num(1), num(-1), num(10), list(num(1), num(0)), list(num(10)), list(num(1), list(num(0))), list(list(num(1)), num(0)),
		list(null), list(list()), list(object()), object(at("", null)), object(at("a", null)), object(at("a", text(""))), object(at("a", num(1)), at("b", num(2))), object(at("a", num(1))), list(object(at("a", num(1))), object(at("b", num(2)))),
		text("a\",\"b"), list(text("a"), text("b")), list(text("a\",\"b")), text("\n"), text("\\n"), text("\u00e9"), text("\\u00e9"), text("e\u0301"),
	}
	r := rand.New(rand.NewSource(36))
	for range 400 {
		pool = append(pool, pick(r, 2))
	}
	texts := make([][]byte, len(pool))
	for i, v := range pool {
		texts[i], _ = Print(v, 40)
	}
	alike, unlike := 0, 0
	for i, a := range pool {
		for k, b := range pool {
			equal := value.Equal(a, roomy(b))
			if equal != bytes.Equal(texts[i], texts[k]) {
				t.Fatalf("P3.6: %s and %s: the same: %v", texts[i], texts[k], equal)
			}
			if equal {
				alike++
			} else {
				unlike++
			}
		}
	}
	if alike <= 2*len(pool) || unlike < 1000 {
		t.Errorf("too few alike or unlike: %d, %d", alike, unlike)
	}
}
