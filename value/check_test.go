package value

import (
	"math/rand"
	"strconv"
	"strings"
	"testing"

	"freehold/api"
)

func checkIs(t *testing.T, what string, v api.Value, depth int, want api.Errno) {
	t.Helper()
	if e := Check(v, depth); e != want {
		t.Errorf("P2.1: Check of %s, depth %d: %d, want %d", what, depth, e, want)
	}
}

func TestCheckExamples(t *testing.T) {
	checkIs(t, "null", null, 0, api.OK)
	checkIs(t, "[]", list(), 0, api.OK)
	checkIs(t, "[null]", list(null), 0, api.ErrDeep)
	checkIs(t, "[null]", list(null), 1, api.OK)
	checkIs(t, "null", null, -1, api.ErrArg)
	checkIs(t, "null", null, 41, api.ErrArg)
	checkIs(t, "the kind 6", api.Value{Kind: 6}, 0, api.ErrValue)
	checkIs(t, "a bool with a number", api.Value{Kind: api.Bool, Int: 1}, 0, api.ErrValue)
	checkIs(t, "no UTF-8", text("\xff"), 0, api.ErrValue)
	checkIs(t, "the keys b, a", object(at("b", null), at("a", null)), 1, api.ErrValue)
	checkIs(t, "the keys a, a", object(at("a", null), at("a", null)), 1, api.ErrValue)
	checkIs(t, "65536 values", nulls(65535), 1, api.OK)
	checkIs(t, "65537 values", nulls(65536), 1, api.ErrNodes)
	long := strings.Repeat("x", 1048576)
	checkIs(t, "1048576 bytes", text(long), 0, api.OK)
	checkIs(t, "1048577 bytes", text(long+"x"), 0, api.ErrBytes)
	checkIs(t, "1048576 bytes and a key", object(at("k", text(long))), 1, api.ErrBytes)
	checkIs(t, "too deep, then not good", list(list(null), api.Value{Kind: 9}), 1, api.ErrDeep)
	checkIs(t, "not good, then too deep", list(api.Value{Kind: 9}, list(null)), 1, api.ErrValue)
}

func TestCheckDepths(t *testing.T) {
	bad := api.Value{Kind: 9}
	for _, d := range []int{-1 << 63, -2, -1, 41, 42, 1<<63 - 1} {
		checkIs(t, "null", null, d, api.ErrArg)
		checkIs(t, "the kind 9", bad, d, api.ErrArg)
	}
	for d := 0; d <= 40; d++ {
		for n := range 43 {
			want := api.OK
			if n > d {
				want = api.ErrDeep
			}
			checkIs(t, strconv.Itoa(n)+" lists", lists(n, null), d, want)
			checkIs(t, strconv.Itoa(n)+" maps", maps(n, list()), d, want)
		}
	}
}

// Each kind with each field set, alone and with all others empty but not nil.
func TestCheckFields(t *testing.T) {
	for kind := -2; kind <= 8; kind++ {
		for field := range 6 {
			v := api.Value{Kind: kind, List: []api.Value{}, Map: []api.Member{}}
			switch field {
			case api.Bool:
				v.Bool = true
			case api.Int:
				v.Int = -1
			case api.Str:
				v.Str = "s"
			case api.List:
				v.List = []api.Value{null}
			case api.Map:
				v.Map = []api.Member{at("", null)}
			}
			want := api.ErrValue
			if kind >= api.Null && kind <= api.Map && (field == api.Null || field == kind) {
				want = api.OK
			}
			checkIs(t, "the kind "+strconv.Itoa(kind)+" with the field of "+strconv.Itoa(field), v, 40, want)
		}
	}
}

func TestCheckSpareRoomCountsNot(t *testing.T) {
	checkIs(t, "an int with spare room", api.Value{Kind: api.Int, List: make([]api.Value, 0, 4), Map: make([]api.Member, 0, 4)}, 0, api.OK)
	checkIs(t, "a list with spare room", list(make([]api.Value, 2, 4)...), 1, api.OK)
}

func TestCheckTexts(t *testing.T) {
	for _, s := range []string{"", "\x00", "a", "\u00e9", "\ufffd", "\U0010ffff"} {
		checkIs(t, strconv.Quote(s), text(s), 0, api.OK)
		checkIs(t, "the key "+strconv.Quote(s), object(at(s, null)), 1, api.OK)
	}
	for _, s := range []string{"\x80", "\xc3", "a\xff", "\xc0\x80", "\xed\xa0\x80", "\xf4\x90\x80\x80"} {
		checkIs(t, strconv.Quote(s), text(s), 0, api.ErrValue)
		checkIs(t, "the key "+strconv.Quote(s), object(at(s, null)), 1, api.ErrValue)
		checkIs(t, "the last key "+strconv.Quote(s), object(at("", null), at(s, null)), 1, api.ErrValue)
	}
	rising := []string{"", "\x00", "A", "a", "a\x00", "aa", "ab", "b", "\u007f", "\u0080", "\uffff", "\U00010000"}
	for i, a := range rising {
		for k, b := range rising {
			want := api.ErrValue
			if i < k {
				want = api.OK
			}
			checkIs(t, "the keys "+strconv.Quote(a)+", "+strconv.Quote(b), object(at(a, null), at(b, null)), 1, want)
		}
	}
}

// Of the faults of one value: ErrNodes, ErrDeep, ErrValue, ErrBytes.
func TestCheckFaultsOfOneValue(t *testing.T) {
	bad, long := api.Value{Kind: 9}, strings.Repeat("x", 1048577)
	checkIs(t, "too many", list(nulls(65534), null), 2, api.ErrNodes)
	checkIs(t, "too many and not good", list(nulls(65534), bad), 2, api.ErrNodes)
	checkIs(t, "too many and too long", list(nulls(65534), text(long)), 2, api.ErrNodes)
	checkIs(t, "too many and too deep", list(append(make([]api.Value, 65534), list(null))...), 1, api.ErrNodes)
	checkIs(t, "too deep and not good", list(bad), 0, api.ErrDeep)
	checkIs(t, "too deep and too long", list(text(long)), 0, api.ErrDeep)
	checkIs(t, "not good and too long", text(long+"\xff"), 0, api.ErrValue)
	checkIs(t, "an int with too long a string", api.Value{Kind: api.Int, Str: long}, 0, api.ErrValue)
	checkIs(t, "keys too long that do not rise", object(at(long, null), at("a", null)), 1, api.ErrValue)
	checkIs(t, "keys too long, then no UTF-8", object(at(long, null), at("\xff", null)), 1, api.ErrValue)
}

// Of two values the faults of the one ahead, what it holds behind it.
func TestCheckFaultsOfTwoValues(t *testing.T) {
	bad, long := api.Value{Kind: 9}, strings.Repeat("x", 1048577)
	checkIs(t, "a map not good over what is too deep", object(at("b", null), at("a", null)), 0, api.ErrValue)
	checkIs(t, "a map with keys too long over what is not good", object(at(long, bad)), 1, api.ErrBytes)
	checkIs(t, "too long, then not good", list(text(long), bad), 1, api.ErrBytes)
	checkIs(t, "not good, then too long", list(bad, text(long)), 1, api.ErrValue)
	checkIs(t, "not good deep within, then too long", list(lists(5, bad), text(long)), 9, api.ErrValue)
	checkIs(t, "too long deep within, then not good", object(at("a", maps(5, text(long))), at("b", bad)), 9, api.ErrBytes)
	checkIs(t, "too many, then nothing else", list(nulls(65535), bad), 2, api.ErrNodes)
	checkIs(t, "not good, then too many", list(bad, nulls(65536)), 2, api.ErrValue)
}

func TestCheckCountsBytesOfAll(t *testing.T) {
	part := text(strings.Repeat("x", 65536))
	many := list()
	for range 16 {
		many.List = append(many.List, part)
	}
	checkIs(t, "16 strings of 65536", many, 1, api.OK)
	checkIs(t, "and a byte", list(many, text("x")), 2, api.ErrBytes)
	checkIs(t, "and a key", object(at("", many), at("x", null)), 2, api.ErrBytes)
	checkIs(t, "and an empty key", object(at("", many)), 2, api.OK)
	keys := object()
	for i := range 8 {
		keys.Map = append(keys.Map, at(strconv.Itoa(i)+strings.Repeat("y", 131071), null))
	}
	checkIs(t, "keys of 1048576 bytes", keys, 1, api.OK)
	checkIs(t, "and a string", list(keys, text("x")), 2, api.ErrBytes)
	keys.Map[7].Val = text("x")
	checkIs(t, "and a string within", keys, 1, api.ErrBytes)
	checkIs(t, "bytes of more than one each", text(strings.Repeat("\u20ac", 349526)), 0, api.ErrBytes)
	checkIs(t, "bytes of more than one each", text(strings.Repeat("\u20ac", 349525)+"x"), 0, api.OK)
}

// within is a list whose element of that number is the list itself.
func within(l []api.Value, i int) api.Value {
	l[i] = list(l...)
	return list(l...)
}

func TestCheckOfWhatLiesWithinItself(t *testing.T) {
	for d := 0; d <= 40; d++ {
		checkIs(t, "a list in itself", within(make([]api.Value, 1), 0), d, api.ErrDeep)
		checkIs(t, "a list in itself, among others", within(make([]api.Value, 9), 4), d, api.ErrDeep)
	}
	twice := make([]api.Value, 2)
	twice[0], twice[1] = list(twice...), list(twice...)
	checkIs(t, "a list twice in itself", list(twice...), 40, api.ErrDeep)
	m := []api.Member{at("k", null)}
	m[0].Val = object(m...)
	checkIs(t, "a map in itself", object(m...), 40, api.ErrDeep)
	checkIs(t, "a long list in itself", within(make([]api.Value, 65535), 65534), 40, api.ErrNodes)
	bytes := []api.Value{text(strings.Repeat("x", 65536)), null}
	checkIs(t, "strings in a list in itself", within(bytes, 1), 40, api.ErrBytes)
	checkIs(t, "strings in a list in itself", within(bytes, 1), 15, api.ErrDeep)
	checkIs(t, "what is not good, in a list in itself", within([]api.Value{{Kind: 9}, null}, 1), 40, api.ErrValue)
}

// A value whose lists are the same memory is still as many values as it tells.
func TestCheckOfSharedLists(t *testing.T) {
	v := null
	for range 15 {
		v = list(v, v)
	}
	checkIs(t, "65535 values", v, 40, api.OK)
	if d, n := Depth(v), Nodes(v); d != 15 || n != 65535 {
		t.Errorf("P2.2: of shared lists: %d, %d", d, n)
	}
	checkIs(t, "131071 values", list(v, v), 40, api.ErrNodes)
	for range 25 {
		v = list(v, v)
	}
	checkIs(t, "2^41 values", v, 40, api.ErrNodes)
	if d, n := Depth(v), Nodes(v); d != -1 || n != -1 {
		t.Errorf("P2.2: of too many values: %d, %d", d, n)
	}
}

func TestCheckByTheWords(t *testing.T) {
	r, seen := rand.New(rand.NewSource(2)), map[api.Errno]int{}
	for i := range 60000 {
		v := pick(r, 5)
		if i%4 > 0 {
			spoil(r, &v)
		}
		if i%3000 == 1 {
			v = list(nulls(65525+r.Intn(12)), v)
		}
		if i%3000 == 2 {
			v = object(at("", text(strings.Repeat("x", 1048570+r.Intn(8)))), at("k", v))
		}
		depth := r.Intn(43) - 1
		if i%2 == 0 {
			depth = r.Intn(6)
		}
		want := wantCheck(v, depth)
		seen[want]++
		if e := Check(v, depth); e != want {
			t.Fatalf("P2.1: Check(%+v, %d) = %d, want %d", v, depth, e, want)
		}
	}
	for _, e := range []api.Errno{api.OK, api.ErrArg, api.ErrValue, api.ErrDeep, api.ErrNodes, api.ErrBytes} {
		if seen[e] == 0 {
			t.Errorf("no value with the answer %d was tried", e)
		}
	}
}

func TestDepthAndNodes(t *testing.T) {
	long := strings.Repeat("x", 1048577)
	for i, c := range []struct {
		v            api.Value
		depth, nodes int
	}{
		{num(5), 0, 1}, {list(), 0, 1}, {list(num(5)), 1, 2}, {object(at("a", list(list()))), 2, 3}, {api.Value{Kind: 9}, -1, -1},
		{null, 0, 1}, {object(), 0, 1}, {text("abc"), 0, 1}, {list(list(null), null), 2, 4}, {list(null, lists(3, null), null), 4, 7},
		{object(at("a", null), at("b", list()), at("c", object(at("", null)))), 2, 5},
		{lists(40, null), 40, 41}, {lists(41, null), -1, -1}, {maps(40, list()), 40, 41}, {maps(41, list()), -1, -1},
		{nulls(65535), 1, 65536}, {nulls(65536), -1, -1}, {text(long), -1, -1}, {text(long[1:]), 0, 1}, {list(text("\xff")), -1, -1},
		{within(make([]api.Value, 2), 1), -1, -1},
	} {
		if d, n := Depth(c.v), Nodes(c.v); d != c.depth || n != c.nodes {
			t.Errorf("P2.2: the case %d: %d, %d, want %d, %d", i, d, n, c.depth, c.nodes)
		}
	}
}

func TestDepthAndNodesByTheWords(t *testing.T) {
	r := rand.New(rand.NewSource(22))
	for i := range 20000 {
		v := pick(r, 6)
		if i%3 == 0 {
			spoil(r, &v)
		}
		depth, nodes := -1, -1
		if wantCheck(v, 40) == api.OK {
			depth, nodes = wantDepth(v), wantNodes(v)
		}
		if d, n := Depth(v), Nodes(v); d != depth || n != nodes {
			t.Fatalf("P2.2: of %+v: %d, %d, want %d, %d", v, d, n, depth, nodes)
		}
	}
}
