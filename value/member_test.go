package value

import (
	"math/rand"
	"sort"
	"strconv"
	"strings"
	"testing"

	"freehold/api"
)

var a1 = object(at("a", num(1)))

func TestGet(t *testing.T) {
	for i, c := range []struct {
		v, want api.Value
		key     string
		there   bool
	}{
		{object(at("a", null)), null, "a", true}, {object(), null, "a", false}, {a1, num(1), "a", true}, {a1, null, "", false}, {a1, null, "b", false}, {a1, null, "aa", false},
		{object(at("", num(1)), at("a", list(num(2))), at("b", num(3))), num(1), "", true},
		{object(at("", num(1)), at("a", list(num(2))), at("b", num(3))), list(num(2)), "a", true},
		{object(at("", num(1)), at("a", list(num(2))), at("b", num(3))), num(3), "b", true},
		{null, null, "", false}, {num(1), null, "a", false}, {text("a"), null, "a", false}, {list(a1), null, "a", false}, {object(at("b", a1)), null, "a", false}, {a1, null, "\xff", false},
	} {
		x, there := Get(c.v, c.key)
		if there != c.there || mark(x) != mark(c.want) || !there && !isNull(x) {
			t.Errorf("P2.5: Get, the case %d: %+v, %v", i, x, there)
		}
	}
	for i, bad := range append(notTaken(), object(at("a", num(1)), at("b", text("\xff"))), api.Value{Kind: 9, Map: a1.Map}, api.Value{Kind: api.List, Map: a1.Map}) {
		for _, key := range []string{"", "a", "k"} {
			if x, there := Get(bad, key); there || !isNull(x) {
				t.Errorf("P2.5: Get of the value %d that is not taken: %+v, %v", i, x, there)
			}
		}
	}
}

// checkMade holds a map that was made, or refused, against what it should be.
func checkMade(t *testing.T, what string, m api.Value, e api.Errno, want api.Value, wantE api.Errno) {
	t.Helper()
	if e != wantE || Check(m, 40) != api.OK || mark(m) != mark(want) || e != api.OK && !isNull(m) {
		t.Errorf("%s: the error %d, want %d, or another value", what, e, wantE)
	}
}

func TestWith(t *testing.T) {
	ab := object(at("a", num(1)), at("c", num(3)))
	for i, c := range []struct {
		v, x, want api.Value
		key        string
	}{
		{a1, num(2), object(at("a", num(1)), at("b", num(2))), "b"}, {a1, null, object(at("a", null)), "a"}, {object(), list(), object(at("", list())), ""},
		{ab, num(0), object(at("", num(0)), at("a", num(1)), at("c", num(3))), ""},
		{ab, num(2), object(at("a", num(1)), at("b", num(2)), at("c", num(3))), "b"},
		{ab, num(4), object(at("a", num(1)), at("c", num(3)), at("d", num(4))), "d"},
		{ab, ab, object(at("a", num(1)), at("c", ab)), "c"}, {ab, ab, object(at("a", ab), at("c", num(3))), "a"},
		{object(), lists(39, null), object(at("a", lists(39, null))), "a"},
	} {
		m, e := With(c.v, c.key, c.x)
		checkMade(t, "P2.5: With, the case "+strconv.Itoa(i), m, e, c.want, api.OK)
	}
}

func TestWithRefused(t *testing.T) {
	half := text(strings.Repeat("x", 524288))
	for i, c := range []struct {
		v, x api.Value
		key  string
		want api.Errno
	}{
		{list(), num(1), "a", api.ErrValue}, {null, num(1), "a", api.ErrValue}, {num(1), num(1), "a", api.ErrValue}, {text("a"), num(1), "a", api.ErrValue}, {list(a1), num(1), "a", api.ErrValue},
		{a1, num(1), "\xff", api.ErrValue}, {object(), num(1), "\xed\xa0\x80", api.ErrValue}, {object(), lists(40, null), "\xff", api.ErrValue}, {object(at("z", half)), half, "\xff", api.ErrValue},
		{object(), lists(40, null), "a", api.ErrDeep}, {a1, maps(40, null), "b", api.ErrDeep}, {object(), lists(41, null), "a", api.ErrValue},
		{object(), nulls(65535), "a", api.ErrNodes}, {object(at("a", nulls(65534))), null, "b", api.ErrNodes}, {object(), nulls(65536), "a", api.ErrValue},
		{object(at("k", half)), half, "l", api.ErrBytes}, {object(), null, strings.Repeat("x", 1048577), api.ErrBytes}, {object(), text(strings.Repeat("x", 1048577)), "a", api.ErrValue},
		{object(at("k", nulls(65534))), lists(40, null), "a", api.ErrDeep}, {object(at("k", nulls(65534))), lists(40, null), "l", api.ErrNodes}, {object(at("k", nulls(65534))), lists(40, null), strings.Repeat("l", 1048577), api.ErrBytes},
	} {
		m, e := With(c.v, c.key, c.x)
		checkMade(t, "P2.5: With, the case "+strconv.Itoa(i), m, e, null, c.want)
	}
	for i, bad := range append(notTaken(), api.Value{Kind: api.List, Map: a1.Map}) {
		what := "P2.5: With the value " + strconv.Itoa(i) + " that is not taken"
		m, e := With(bad, "a", num(1))
		checkMade(t, what, m, e, null, api.ErrValue)
		m, e = With(a1, "a", bad)
		checkMade(t, what, m, e, null, api.ErrValue)
		m, e = Build(at("a", num(1)), at("b", bad))
		checkMade(t, "P2.6: Build of the value "+strconv.Itoa(i)+" that is not taken", m, e, null, api.ErrValue)
	}
}

// Setting in the place of what is there can make room.
func TestWithInThePlaceOfMuch(t *testing.T) {
	full := object(at("a", nulls(65534)))
	m, e := With(full, "a", null)
	checkMade(t, "P2.5: With in the place of many values", m, e, object(at("a", null)), api.OK)
	if m, e = With(full, "a", nulls(65534)); e != api.OK || !Equal(m, full) {
		t.Errorf("P2.5: With of as many values: %d", e)
	}
	m, e = With(object(at("a", lists(39, null))), "a", num(1))
	checkMade(t, "P2.5: With in the place of what is deep", m, e, a1, api.OK)
}

func TestWithout(t *testing.T) {
	abc := object(at("a", num(1)), at("b", list(num(2))), at("c", num(3)))
	for i, c := range []struct {
		v, want api.Value
		key     string
	}{
		{a1, object(), "a"}, {a1, a1, "b"}, {a1, a1, ""}, {a1, a1, "\xff"}, {num(5), num(5), "a"}, {null, null, "a"}, {text("a"), text("a"), "a"}, {list(a1), list(a1), "a"}, {boolean(true), boolean(true), ""}, {object(), object(), ""},
		{abc, object(at("b", list(num(2))), at("c", num(3))), "a"}, {abc, object(at("a", num(1)), at("c", num(3))), "b"}, {abc, object(at("a", num(1)), at("b", list(num(2)))), "c"}, {abc, abc, "bb"},
		{object(at("", null)), object(), ""}, {object(at("b", a1)), object(at("b", a1)), "a"},
	} {
		checkMade(t, "P2.5: Without, the case "+strconv.Itoa(i), Without(c.v, c.key), api.OK, c.want, api.OK)
	}
	for i, bad := range append(notTaken(), object(at("a", text("\xff"))), api.Value{Kind: api.List, Map: a1.Map}) {
		if !isNull(Without(bad, "a")) {
			t.Errorf("P2.5: Without of the value %d that is not taken", i)
		}
	}
}

func TestBuild(t *testing.T) {
	for i, c := range []struct {
		l    []api.Member
		want api.Value
	}{
		{[]api.Member{at("b", num(1)), at("a", num(2))}, object(at("a", num(2)), at("b", num(1)))}, {nil, object()}, {[]api.Member{}, object()}, {[]api.Member{at("", null)}, object(at("", null))},
		{[]api.Member{at("\U00010000", num(1)), at("\uffff", num(2)), at("", num(3))}, object(at("", num(3)), at("\uffff", num(2)), at("\U00010000", num(1)))},
		{[]api.Member{at("a", lists(39, null))}, object(at("a", lists(39, null)))},
	} {
		m, e := Build(c.l...)
		checkMade(t, "P2.6: Build, the case "+strconv.Itoa(i), m, e, c.want, api.OK)
	}
}

func TestBuildRefused(t *testing.T) {
	half, long := text(strings.Repeat("x", 524288)), strings.Repeat("x", 1048577)
	for i, c := range []struct {
		l    []api.Member
		want api.Errno
	}{
		{[]api.Member{at("a", num(1)), at("a", num(1))}, api.ErrValue}, {[]api.Member{at("a", num(1)), at("b", null), at("a", num(2))}, api.ErrValue}, {[]api.Member{at("", null), at("", null)}, api.ErrValue},
		{[]api.Member{at("\xff", null)}, api.ErrValue}, {[]api.Member{at("a", null), at("\xc3", null)}, api.ErrValue},
		{[]api.Member{at("a", lists(40, null))}, api.ErrDeep}, {[]api.Member{at("a", lists(40, null)), at("a", null)}, api.ErrValue}, {[]api.Member{at("b", null), at("a", lists(41, null))}, api.ErrValue},
		{[]api.Member{at("b", null), at("a", nulls(65534))}, api.ErrNodes}, {[]api.Member{at("b", nulls(65534)), at("a", lists(40, null))}, api.ErrDeep}, {[]api.Member{at("b", half), at("a", half)}, api.ErrBytes},
		{[]api.Member{at(long, null)}, api.ErrBytes}, {[]api.Member{at(long, null), at("a", text("\xff"))}, api.ErrValue}, {[]api.Member{at(long, null), at(long, null)}, api.ErrValue}, {[]api.Member{at(long, null), at("\xff", null)}, api.ErrValue},
	} {
		m, e := Build(c.l...)
		checkMade(t, "P2.6: Build, the case "+strconv.Itoa(i), m, e, null, c.want)
	}
}

func TestBuildOfVeryManyMembers(t *testing.T) {
	var l []api.Member
	for i := range 65535 {
		l = append(l, at(strconv.Itoa((i*40504)%65535), num(i)))
	}
	m, e := Build(l...)
	if e != api.OK || Nodes(m) != 65536 || !sort.SliceIsSorted(m.Map, func(i, k int) bool { return m.Map[i].Key <= m.Map[k].Key }) {
		t.Fatalf("P2.6: Build of 65535 members: %d", e)
	}
	if _, e := Build(append(l, at("x", null))...); e != api.ErrNodes {
		t.Errorf("P2.6: Build of 65536 members: %d", e)
	}
	if _, e := Build(append(l, at("7", null))...); e != api.ErrValue {
		t.Errorf("P2.6: Build of 65536 members, one key twice: %d", e)
	}
}

// Every order of some members makes the one map of them.
func TestBuildInAnyOrder(t *testing.T) {
	m := object(at("", num(1)), at("a", list(null)), at("ab", null), at("b", text("b")), at("\u00e9", object()))
	var each func(l, rest []api.Member)
	each = func(l, rest []api.Member) {
		if len(rest) == 0 {
			if w, e := Build(l...); e != api.OK || mark(w) != mark(m) {
				t.Errorf("P2.7: Build(%+v) = %+v, %d", l, w, e)
			}
			return
		}
		for i, x := range rest {
			others := append(append([]api.Member{}, rest[:i]...), rest[i+1:]...)
			each(append(l[:len(l):len(l)], x), others)
		}
	}
	each(nil, m.Map)
	r := rand.New(rand.NewSource(26))
	for range 2000 {
		m := pickMap(r, 4)
		l := append([]api.Member{}, m.Map...)
		r.Shuffle(len(l), func(i, k int) { l[i], l[k] = l[k], l[i] })
		if w, e := Build(l...); e != api.OK || mark(w) != mark(m) {
			t.Fatalf("P2.7: Build(%+v) = %+v, %d", l, w, e)
		}
	}
}

// Maps that are set and taken from beside one that the language has.
func TestWithWithoutGetOneAgainstTheOther(t *testing.T) {
	r, v, want := rand.New(rand.NewSource(25)), object(), map[string]api.Value{}
	for range 5000 {
		key, x := pickKey(r), pick(r, 2)
		before := mark(v)
		if r.Intn(3) > 0 {
			var e api.Errno
			if v, e = With(v, key, x); e != api.OK {
				t.Fatalf("P2.7: With: %d", e)
			}
			want[key] = x
		} else {
			_, there := want[key]
			v = Without(v, key)
			delete(want, key)
			if !there && mark(v) != before {
				t.Fatalf("P2.7: Without of what is not there changes something")
			}
		}
		checkSame(t, v, want)
	}
}

// checkSame asks a map for every key, and sets what is there once more.
func checkSame(t *testing.T, v api.Value, want map[string]api.Value) {
	t.Helper()
	if v.Kind != api.Map || len(v.Map) != len(want) || Check(v, 40) != api.OK {
		t.Fatalf("P2.7: %+v has another number of members than %d", v, len(want))
	}
	for _, key := range []string{"", "\x00", "a", "a\x00", "ab", "b", "\u00e9", "\U0001f600", "none"} {
		x, there := Get(v, key)
		w, wanted := want[key]
		if there != wanted || mark(x) != mark(w) {
			t.Fatalf("P2.7: Get(%+v, %q) = %+v, %v", v, key, x, there)
		}
		if !there {
			continue
		}
		if again, e := With(v, key, x); e != api.OK || mark(again) != mark(v) {
			t.Fatalf("P2.7: With(%+v, %q) of what is there = %+v, %d", v, key, again, e)
		}
	}
}

// No call keeps or changes what it is given, nor the spare room behind it, and no answer shares memory with anything.
func TestMemory(t *testing.T) {
	r := rand.New(rand.NewSource(20))
	for range 3000 {
		v, x, key := roomy(pickMap(r, 3)), roomy(pick(r, 3)), pickKey(r)
		l := append(roomy(pickMap(r, 2)).Map, at("zz", x), at("yy", x), at("xx", v))
		l = append(l, at("spare", num(80)))[:len(l)]
		before := mark(whole(list(v, x, object(l...))))
		w, _ := With(v, key, x)
		checkApart(t, "With", w, v, x)
		twice, _ := With(v, "zz", v)
		checkApart(t, "With of the map itself", twice, v)
		checkApart(t, "Without", Without(v, key), v)
		checkApart(t, "Without of what is no map", Without(x, "zz"), x)
		g, _ := Get(v, key)
		checkApart(t, "Get", g, v)
		b, e := Build(l...)
		if e != api.OK {
			t.Fatalf("P2.6: Build: %d", e)
		}
		checkApart(t, "Build", b, v, x, object(l...))
		Check(v, 40)
		Compare(v, x)
		if mark(whole(list(v, x, object(l...)))) != before {
			t.Fatal("Memory: a call changed what it was given")
		}
	}
}
