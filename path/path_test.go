package path

import (
	"math"
	"slices"
	"strings"
	"testing"

	"freehold/api"
)

func TestTexts(t *testing.T) {
	for want, p := range map[string]api.Path{
		"":                                nil,
		`.spec."a b"[id=1,name="x"].port`: {field("spec"), field("a b"), key(at("id", num(1)), at("name", text("x"))), field("port")},
		`[="q"]`:                          {item(text("q"))},
		`[=""]`:                           {item(text(""))},
		`[="a\"\\\u0000"]`:                {item(text("a\"\\\x00"))},
		`[=true][=false]`:                 {item(truth(true)), item(truth(false))},
		`[=0][=-5]`:                       {item(num(0)), item(num(-5))},
		`[=9223372036854775807][=-9223372036854775808]`: {item(num(math.MaxInt64)), item(num(math.MinInt64))},
		`.""`:                               steps(""),
		`."9"`:                              steps("9"),
		`."-a"`:                             steps("-a"),
		`."a."`:                             steps("a."),
		`."."`:                              steps("."),
		`._._-.a-9_Z.Z.z`:                   steps("_", "_-", "a-9_Z", "Z", "z"),
		".\"\u00e9\"":                       steps("\u00e9"),
		".\"a\u00e9\"":                      steps("a\u00e9"),
		`."a\n"."\u001f"`:                   steps("a\n", "\x1f"),
		".\"\x7f\".\"/\"":                   steps("\x7f", "/"),
		`.true.null`:                        steps("true", "null"),
		`[""=1]`:                            {key(at("", num(1)))},
		`["a b"=false]`:                     {key(at("a b", truth(false)))},
		`[A=1,a=true,b=2]`:                  {key(at("A", num(1)), at("a", truth(true)), at("b", num(2)))},
		`[a="]",b="[=,"]`:                   {key(at("a", text("]")), at("b", text("[=,")))},
		`["\n"="\n","="="=","a="=1]`:        {key(at("\n", text("\n")), at("=", text("=")), at("a=", num(1)))},
		`[a=1,b=1,c=1,d=1,e=1,f=1,g=1,h=1]`: {key(at("a", num(1)), at("b", num(1)), at("c", num(1)), at("d", num(1)), at("e", num(1)), at("f", num(1)), at("g", num(1)), at("h", num(1)))},
		strings.Repeat(".a", 32):            path(32, func(int) api.Elem { return field("a") }),
	} {
		if s, e := Text(p); e != api.OK || s != want {
			t.Errorf("P9.4: Text(%s) = %s, %d, want %s", show(p), s, e, want)
		}
		if q, place, e := Parse(want); e != api.OK || place != -1 || !same(p, q) {
			t.Errorf("P9.5: Parse(%s) = %s, %d, %d", want, show(q), place, e)
		}
		checkPath(t, p)
		checkText(t, want)
	}
}

func TestTextsThatAreNone(t *testing.T) {
	for s, want := range map[string]int{
		".a.": 2, "a": 0, ".a[x": 2, `."a"`: 0, "[b=1,a=2]": 0, "[=01]": 0, // the chapter's
		".": 0, "..": 0, "..a": 0, ".a..b": 2, " ": 0, ".a ": 2, " .a": 0, ".a b": 2, ". a": 0, ".9": 0, ".-": 0, ".-a": 0, ".a9-_.": 5, ".a/b": 2, ".a\x00": 2, ".\u00e9": 0, ".a\u00e9": 2, ".\xff": 0, ".a\xff": 2, "/a": 0, `"a"`: 0, `"a b"`: 0, `.a"b"`: 2,
		`."`: 0, `."a b`: 0, `."a b"c`: 6, `."a b".`: 6, `."_-9"`: 0, `."\u0061 b"`: 0, `."a\u0020b"`: 0, `."\/"`: 0, `."\u000a"`: 0, `."\u001F"`: 0, `."\u001f"`: -1, "\".\x1f\"": 0, ".\"\x1f\"": 0, ".\"\n\"": 0, ".\"\xff\"": 0, ".\"\xed\xa0\x80\"": 0, `."\ud83d"`: 0, `."\ud83d\ude00"`: 0, ".\"\U0001f600\"": -1, `.'a'`: 0,
		"[": 0, "]": 0, "[]": 0, "[=": 0, "[=]": 0, "[=1": 0, "[=1]": -1, "[=1]x": 4, "[=1]]": 4, "[=1][": 4, "[=1,2]": 0, "[=1 ]": 0, "[= 1]": 0, "[ =1]": 0, "[==1]": 0, "[=a]": 0, "[=null]": 0, "[=[]]": 0, "[={}]": 0, "[=[1]]": 0, "[=tru]": 0, "[=truE]": 0, "[=True]": 0, "[=trues]": 0, "[=fals]": 0, "[=truefalse]": 0,
		"[=-0]": 0, "[=00]": 0, "[=-01]": 0, "[=+1]": 0, "[=1.5]": 0, "[=1.0]": 0, "[=1e3]": 0, "[=1E3]": 0, "[=-]": 0, "[=--1]": 0, "[=1-2]": 0, "[=1_0]": 0, "[=0x1]": 0, "[=9223372036854775808]": 0, "[=-9223372036854775809]": 0, "[=9223372036854775807]": -1, "[=18446744073709551617]": 0, "[=\u0661]": 0,
		`[="]`: 0, `[="a]`: 0, `[="a"`: 0, `[="a"]`: -1, `[="a"b]`: 0, `[="\u0061"]`: 0, `[="\/"]`: 0, `[="\u000A"]`: 0, "[=\"\n\"]": 0, "[=\"\xff\"]": 0, `[="a]"`: 0, `[='a']`: 0,
		"[a": 0, "[a]": 0, "[a=": 0, "[a=]": 0, "[a=1": 0, "[a=1,": 0, "[a=1,]": 0, "[,a=1]": 0, "[a=1,,b=1]": 0, "[a=1;b=1]": 0, "[a=1b=1]": 0, "[a=1,b]": 0, "[a=1,b=]": 0, "[a=1, b=1]": 0, "[a=1 ,b=1]": 0, "[a =1]": 0, "[a= 1]": 0, "[a==1]": 0, "[a=b]": 0, "[a=null]": 0, "[a=[]]": 0, "[a=01]": 0, "[a=-0]": 0, "[a=1]b": 5, "[a=1].": 5, "[a:1]": 0, "[-a=1]": 0, "[9=1]": 0, "[\u00e9=1]": 0, "[.a=1]": 0,
		"[a=1,a=1]": 0, "[a=1,a=2]": 0, "[a=1,A=1]": 0, `["b c"=1,a=1]`: 0, `[a=1,"b c"=1]`: -1, `[b=1,"a c"=1]`: 0, `["a"=1]`: 0, `[a=1,"b"=1]`: 0, `["a b"=1,"a\u0020b"=1]`: 0, `["\u0020"=1]`: 0, `["a b=1]`: 0, `["a b"]`: 0, `["a b":1]`: 0, `[a="\u0062"]`: 0, `[a="b]`: 0, "[a=\"\xff\"]": 0, "[\"\xff\"=1]": 0, "[a=1,=2]": 0, "[=1,a=2]": 0, `[""=1,a=2]`: -1, `[a=2,""=1]`: 0,
		"[a=1,b=1,c=1,d=1,e=1,f=1,g=1,h=1,i=1]": 0, "[a=1,b=1,c=1,d=1,e=1,f=1,g=1,h=1,]": 0, ".x[a=1,b=1,c=1,d=1,e=1,f=1,g=1,h=1,i=1": 2,
		strings.Repeat(".a", 32) + ".": 64, strings.Repeat(".a", 33): 64, strings.Repeat(".a", 34): 64, strings.Repeat(".a", 32) + "!": 64, strings.Repeat(".a", 31) + "[=01].a": 62, strings.Repeat("[=1]", 33): 128, strings.Repeat(`."a b"`, 40): 192,
	} {
		p, place, e := Parse(s)
		if place != want || (e == api.OK) != (want == -1) || e != api.OK && (e != api.ErrPath || len(p) != 0) {
			t.Errorf("P9.5: Parse(%q) = %s, %d, %d, want the place %d", s, show(p), place, e, want)
		}
		checkText(t, s)
	}
}

func TestElements(t *testing.T) {
	good := []api.Member{at("a", num(1))}
	for i, x := range []struct {
		e  api.Elem
		is bool
	}{
		{field("a"), true}, {field(""), true}, {field("\U0010ffff\x00"), true}, {field("\xff"), false}, {field("a\xc3"), false}, {field("\xed\xa0\x80"), false},
		{api.Elem{Kind: 1, Name: "a", Key: []api.Member{}, Item: api.Value{List: []api.Value{}, Map: []api.Member{}}}, true},
		{api.Elem{Kind: 1, Name: "a", Key: good}, false}, {api.Elem{Kind: 1, Name: "a", Key: make([]api.Member, 1)}, false}, {api.Elem{Kind: 1, Item: num(0)}, false}, {api.Elem{Kind: 1, Item: text("")}, false}, {api.Elem{Kind: 1, Item: truth(false)}, false},
		{api.Elem{Kind: 1, Item: api.Value{Bool: true}}, false}, {api.Elem{Kind: 1, Item: api.Value{Int: 1}}, false}, {api.Elem{Kind: 1, Item: api.Value{Str: "a"}}, false}, {api.Elem{Kind: 1, Item: api.Value{List: make([]api.Value, 1)}}, false}, {api.Elem{Kind: 1, Item: api.Value{Map: good}}, false}, {api.Elem{Kind: 1, Item: api.Value{Kind: -1}}, false},
		{key(), false}, {key(good...), true}, {key(at("", truth(false))), true}, {key(at("a", text("")), at("b", num(0))), true}, {key(at("b", num(1)), at("a", num(1))), false}, {key(at("a", num(1)), at("a", num(1))), false}, {key(at("a", num(1)), at("b", num(1)), at("ab", num(1))), false}, {key(at("\xff", num(1))), false}, {key(at("a", num(1)), at("\xff", num(1))), false},
		{key(at("a", api.Value{})), false}, {key(at("a", api.Value{Kind: api.List})), false}, {key(at("a", api.Value{Kind: api.Map})), false}, {key(at("a", text("\xff"))), false}, {key(at("a", num(1)), at("b", api.Value{Kind: 6})), false}, {key(at("a", api.Value{Kind: api.Int, Int: 1, Str: "x"})), false},
		{api.Elem{Kind: 2, Name: "a", Key: good}, false}, {api.Elem{Kind: 2, Key: good, Item: num(0)}, false}, {api.Elem{Kind: 2, Key: good, Item: api.Value{Int: 1}}, false}, {api.Elem{Kind: 2, Key: good, Item: api.Value{List: []api.Value{}}}, true},
		{item(num(0)), true}, {item(truth(false)), true}, {item(text("")), true}, {item(api.Value{Kind: api.Int, List: []api.Value{}, Map: []api.Member{}}), true}, {item(api.Value{}), false}, {item(api.Value{Kind: api.List}), false}, {item(api.Value{Kind: api.Map}), false}, {item(api.Value{Kind: 6}), false}, {item(api.Value{Kind: -1}), false}, {item(text("\xff")), false}, {item(api.Value{Kind: api.Bool, Int: 1}), false}, {item(api.Value{Kind: api.Str, List: make([]api.Value, 1)}), false},
		{api.Elem{Kind: 3, Item: num(1), Name: "a"}, false}, {api.Elem{Kind: 3, Item: num(1), Key: good}, false}, {api.Elem{Kind: 3, Item: num(1), Key: []api.Member{}}, true},
		{api.Elem{}, false}, {api.Elem{Kind: 4}, false}, {api.Elem{Kind: -1}, false}, {api.Elem{Kind: 4, Name: "a"}, false}, {api.Elem{Kind: 0, Name: "a"}, false},
	} {
		for _, p := range []api.Path{{x.e}, {field("b"), x.e}, {x.e, item(num(1))}} {
			if got := checkPath(t, p); got != x.is {
				t.Errorf("P9.1: the element %d: %v", i, got)
			}
			checkRefusal(t, p, x.is)
		}
	}
}

// checkRefusal looks at the answers of every call that is handed a path, whether it is one or not.
func checkRefusal(t *testing.T, p api.Path, is bool) {
	t.Helper()
	after := steps("\U0010ffff")
	after = append(after, after...)
	checkTwo(t, p, nil)
	checkTwo(t, nil, p)
	checkTwo(t, p, p)
	checkTwo(t, p, after)
	if Above(p, p) != is || Above(nil, p) != is {
		t.Errorf("P9.3: Above of %s: %v", show(p), !is)
	}
	for _, l := range [][]api.Path{{p}, {nil, p}, {p, nil}, {p, p, after}} {
		got, e := Sort(l)
		want, f := wantSort(l)
		if e != f || !same(got, want) || (e == api.OK) != is {
			t.Errorf("P9.7: Sort of %d paths with %s: %d paths, %d", len(l), show(p), len(got), e)
		}
	}
}

func TestLimits(t *testing.T) {
	fields := func(n int) api.Path { return path(n, func(int) api.Elem { return field("a") }) }
	keys := func(n int) api.Path {
		return api.Path{key(slices.Repeat([]api.Member{at("", num(1))}, n)...)}
	}
	rising := func(n int) api.Path {
		p := keys(n)
		for i := range n {
			p[0].Key[i].Key = string(rune('a' + i))
		}
		return p
	}
	long := strings.Repeat("\x00", 1048576)
	within := make([]api.Value, 1)
	within[0] = api.Value{Kind: api.List, List: within}
	for what, x := range map[string]struct {
		p  api.Path
		is bool
	}{
		"32 elements": {fields(32), true}, "33 elements": {fields(33), false}, "33 of no kind": {make(api.Path, 33), false}, "many": {fields(100000), false},
		"1 key": {rising(1), true}, "8 keys": {rising(8), true}, "9 keys": {rising(9), false}, "many keys": {keys(100000), false},
		"a long member": {api.Path{item(text(long))}, true}, "one that is too long": {api.Path{item(text(long + "a"))}, false},
		"a long value": {api.Path{key(at("a", text(long)), at("b", text(long)))}, true}, "a value that is too long": {api.Path{key(at("a", text(long)), at("b", text(long+"a")))}, false},
		"a long name": {api.Path{field(long + "a")}, true}, "a long plain name": {api.Path{field(strings.Repeat("a", 1048577))}, true}, "a long key": {api.Path{key(at(long+"a", num(1)))}, true},
		"a value within itself": {api.Path{item(within[0])}, false}, "one beside a field": {api.Path{{Kind: api.ElemField, Item: within[0]}}, false}, "one in a key": {api.Path{key(at("a", within[0]))}, false}, "a string with one": {api.Path{item(api.Value{Kind: api.Str, List: within})}, false},
	} {
		if got := Check(x.p) == api.OK; got != x.is {
			t.Errorf("P9.1: %s: %v", what, got)
		}
		s, e := Text(x.p)
		if (e == api.OK) != x.is || x.is && s == "" {
			t.Errorf("P9.4: %s: %d bytes, %d", what, len(s), e)
		}
		if q, place, f := Parse(s); x.is && (f != api.OK || place != -1 || !same(x.p, q)) {
			t.Errorf("P9.9: %s: %d, %d", what, place, f)
		}
		if _, _, ok := Last(x.p); ok != x.is {
			t.Errorf("P9.6: %s: %v", what, ok)
		}
		if Above(x.p, x.p) != x.is || Above(nil, x.p) != x.is {
			t.Errorf("P9.3: %s", what)
		}
		if l, e := Sort([]api.Path{x.p, nil, x.p}); (e == api.OK) != x.is || x.is && len(l) != 2 || !x.is && len(l) != 0 {
			t.Errorf("P9.7: %s: %d paths, %d", what, len(l), e)
		}
	}
}

// A text may be longer than one that json reads, in every part of it.
func TestLongTexts(t *testing.T) {
	zeros := strings.Repeat(`\u0000`, 1048576)
	many := strings.Repeat("a", 1048577)
	for what, x := range map[string]struct {
		s    string
		want int
	}{
		"a member": {`[="` + zeros + `"]`, -1}, "a member that is too long": {`.a[="` + zeros + `a"]`, 2}, "a member that is too long by one": {`[="` + many + `"]`, 0},
		"a value": {`[a="` + zeros + `"]`, -1}, "a value that is too long": {`.a.b[a="` + zeros + `a"]`, 4},
		"a name": {`."` + zeros + zeros + `"`, -1}, "a plain name": {"." + many + many, -1}, "a plain name in quotes": {`."` + many + `"`, 0}, "a key": {`["` + zeros + `a"=1]`, -1}, "a plain key": {"[" + many + "=1]", -1},
		"digits": {"[=1" + strings.Repeat("0", 1048577) + "]", 0}, "members": {"[" + strings.Repeat("a=1,", 300000) + "b=1]", 0}, "dots": {strings.Repeat(".", 1048577), 0}, "elements": {strings.Repeat(".a", 1048577), 64}, "brackets": {strings.Repeat("[", 1048577), 0}, "a quote that is not closed": {`.a."` + many, 2},
	} {
		p, place, e := Parse(x.s)
		if place != x.want || (e == api.OK) != (x.want == -1) {
			t.Errorf("P9.5: %s: %d, %d", what, place, e)
		}
		if s, f := Text(p); e == api.OK && (f != api.OK || s != x.s) {
			t.Errorf("P9.9: %s: a text of %d bytes, %d", what, len(s), f)
		}
	}
}

// rising is paths of which each stands ahead of the next one.
func rising() []api.Path {
	one := key(at("id", num(1)))
	return []api.Path{
		nil, steps(""), steps("", ""), steps("\x00"), steps("A"), steps("a"), steps("a", "b"), steps("a", "b", "a"), steps("a", "c"), {field("a"), one}, {field("a"), item(num(1))}, steps("a\x00"), steps("a-"), steps("aa"), steps("b"), steps("z"), steps("\u00e9"), steps("\uffff"), steps("\U0001f600"),
		{key(at("", num(9)))}, {key(at("a", text("z")))}, {key(at("id", truth(false)))}, {key(at("id", truth(true)))}, {key(at("id", num(math.MinInt64)))}, {key(at("id", num(-1)))}, {key(at("id", num(0)))}, {one}, {one, field("a")}, {one, one}, {key(at("id", num(1)), at("x", num(0)))}, {key(at("id", num(1)), at("x", num(0)), at("y", num(0)))}, {key(at("id", num(1)), at("x", num(1)))}, {key(at("id", num(1)), at("y", truth(false)))}, {key(at("id", num(2)))}, {key(at("id", num(10)))}, {key(at("id", num(math.MaxInt64)))}, {key(at("id", text("")))}, {key(at("id", text("1")))}, {key(at("id", text("x")))}, {key(at("id", text("xx")))}, {key(at("idd", truth(false)))}, {key(at("j", truth(false)))},
		{item(truth(false))}, {item(truth(true))}, {item(num(-5))}, {item(num(3))}, {item(num(20))}, {item(text(""))}, {item(text("10"))}, {item(text("9"))}, {item(text("x"))}, {item(text("x")), field("a")}, {item(text("x")), item(truth(false))}, {item(text("xa"))}, {item(text("\u00e9"))},
	}
}

func TestOrder(t *testing.T) {
	l := rising()
	for i, p := range l {
		for k, q := range l {
			want := 0
			if i < k {
				want = -1
			} else if i > k {
				want = 1
			}
			if c := Compare(p, q); c != want {
				t.Errorf("P9.2: Compare(%s, %s) = %d, want %d", show(p), show(q), c, want)
			}
			checkTwo(t, p, q)
		}
	}
	turned := slices.Concat(l, l)
	slices.Reverse(turned)
	if m, e := Sort(turned); e != api.OK || !same(m, l) {
		t.Errorf("P9.7: %d paths, %d", len(m), e)
	}
	if m, e := Sort(nil); e != api.OK || len(m) != 0 {
		t.Errorf("P9.7: Sort of none: %d paths, %d", len(m), e)
	}
}

func TestAbove(t *testing.T) {
	one, two := key(at("id", num(1))), key(at("id", num(1)), at("x", num(0)))
	for i, x := range []struct {
		p, q api.Path
		want bool
	}{
		{nil, nil, true}, {nil, steps("a"), true}, {steps("a"), nil, false}, {steps("a"), steps("a"), true}, {steps("a"), steps("a", "b"), true}, {steps("a", "b"), steps("a"), false}, {steps("a"), steps("ab"), false}, {steps("b"), steps("a", "b"), false}, {steps("a", "b"), steps("a", "c"), false}, {steps("a", "b"), steps("a", "b", "c", "d"), true},
		{api.Path{one}, api.Path{one, field("a")}, true}, {api.Path{one}, api.Path{two}, false}, {api.Path{two}, api.Path{one}, false}, {api.Path{item(num(1))}, api.Path{item(num(1))}, true}, {api.Path{item(num(1))}, api.Path{item(text("1"))}, false}, {api.Path{item(truth(false))}, api.Path{item(num(0))}, false}, {api.Path{field("")}, api.Path{item(text(""))}, false},
		{nil, api.Path{{}}, false}, {api.Path{{}}, api.Path{{}}, false}, {api.Path{{}}, nil, false}, {steps("a"), api.Path{field("a"), {}}, false}, {steps("a"), path(33, func(int) api.Elem { return field("a") }), false},
	} {
		if Above(x.p, x.q) != x.want {
			t.Errorf("P9.3: %d: Above(%s, %s) = %v", i, show(x.p), show(x.q), !x.want)
		}
		checkTwo(t, x.p, x.q)
	}
}

func TestLast(t *testing.T) {
	one := key(at("id", num(1)), at("x", text("y")))
	p := api.Path{field("a"), one, item(num(3))}
	for _, want := range []api.Elem{item(num(3)), one, field("a")} {
		q, e, ok := Last(p)
		if !ok || !same(e, want) || !same(q, p[:len(p)-1]) {
			t.Errorf("P9.6: Last(%s) = %s, %+v, %v", show(p), show(q), e, ok)
		}
		p = q
	}
	for _, p := range []api.Path{p, nil, {}, {{}}, {field("a"), {}}, {{}, field("a")}} {
		if q, e, ok := Last(p); ok || len(q) != 0 || !same(e, api.Elem{}) {
			t.Errorf("P9.6: Last(%s) = %s, %+v, %v", show(p), show(q), e, ok)
		}
	}
}
