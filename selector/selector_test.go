package selector

import (
	"slices"
	"strings"
	"testing"

	"freehold/api"
)

var (
	long64 = strings.Repeat("k", 64)
	long65 = strings.Repeat("k", 65)
)

func TestTexts(t *testing.T) {
	for _, c := range []struct {
		s, print string
		l        []api.Term
	}{
		{`a=1, b in (y, x,x) ,!c,d,e!=""`, `a=1,b in (x,y),!c,d,e!=""`, []api.Term{in("a", "1"), in("b", "x", "y"), hasNot("c"), hasKey("d"), notIn("e", "")}}, // the chapter's
		{"", "", nil},
		{"  ", "", nil},
		{"a==1", "a=1", []api.Term{in("a", "1")}},
		{"in in (in)", "in=in", []api.Term{in("in", "in")}},
		{`"a b"="c,d"`, `"a b"="c,d"`, []api.Term{in("a b", "c,d")}},
		{`"a"=b`, "a=b", []api.Term{in("a", "b")}},
		{"notin", "notin", []api.Term{hasKey("notin")}},
		{"notin notin(notin,in)", "notin notin (in,notin)", []api.Term{notIn("notin", "in", "notin")}},
		{"!in,!notin", "!in,!notin", []api.Term{hasNot("in"), hasNot("notin")}},
		{"in=notin,notin!=in", "in=notin,notin!=in", []api.Term{in("in", "notin"), notIn("notin", "in")}},
		{"a in(x)", "a=x", []api.Term{in("a", "x")}},
		{"a notin(x,x)", "a!=x", []api.Term{notIn("a", "x")}},
		{`"a"in("x","\u0078")`, "a=x", []api.Term{in("a", "x")}},
		{`a in ("")`, `a=""`, []api.Term{in("a", "")}},
		{`a in (b,"")`, `a in ("",b)`, []api.Term{in("a", "", "b")}},
		{`a in (ab,b,a,B,"\u00e9","1")`, "a in (1,B,a,ab,b,\"\u00e9\")", []api.Term{in("a", "1", "B", "a", "ab", "b", "\u00e9")}},
		{"   a   ==   1   ,   !   b   ,   c   notin   (   x   ,   y   )   ,   d   !=   2   ,   e   ", "a=1,!b,c notin (x,y),d!=2,e", []api.Term{in("a", "1"), hasNot("b"), notIn("c", "x", "y"), notIn("d", "2"), hasKey("e")}},
		{"a,a,a=1,a=1,!a", "a,a,a=1,a=1,!a", []api.Term{hasKey("a"), hasKey("a"), in("a", "1"), in("a", "1"), hasNot("a")}},
		{"-=_,./=/.", "-=_,./=/.", []api.Term{in("-", "_"), in("./", "/.")}},
		{"AZaz09-_./", "AZaz09-_./", []api.Term{hasKey("AZaz09-_./")}},
		{`"\ud83d\ude00"!="\/\n\u000a\"\\"`, "\"\U0001f600\"!=\"/\\n\\n\\\"\\\\\"", []api.Term{notIn("\U0001f600", "/\n\n\"\\")}},
		{`"!"`, `"!"`, []api.Term{hasKey("!")}},
		{`" "=" "`, `" "=" "`, []api.Term{in(" ", " ")}},
		{long64, long64, []api.Term{hasKey(long64)}},
		{long64 + "=" + long64, long64 + "=" + long64, []api.Term{in(long64, long64)}},
		{`"` + strings.Repeat(`\u006b`, 64) + `"`, long64, []api.Term{hasKey(long64)}},
		{`a="` + strings.Repeat("\u00e9", 32) + `"`, `a="` + strings.Repeat("\u00e9", 32) + `"`, []api.Term{in("a", strings.Repeat("\u00e9", 32))}},
	} {
		l, place, e := Parse(c.s)
		if !same(l, c.l) || place != -1 || e != api.OK {
			t.Errorf("P20.1: Parse(%q) = %s, %d, %d, want %s", c.s, show(l), place, e, show(c.l))
		}
		if s, e := Print(c.l); s != c.print || e != api.OK {
			t.Errorf("P20.2: Print(%s) = %q, %d, want %q", show(c.l), s, e, c.print)
		}
		checkText(t, c.s)
		checkText(t, c.print)
	}
}

func TestTextsThatAreNone(t *testing.T) {
	for s, want := range map[string]int{
		",a": 0, "a,": 2, "a b": 2, "a=": 2, "a in ()": 6, "a in (x": 7, "a in x": 5, "!a=1": 2, "a=1=2": 3, `""`: 0, `a="x`: 2, "a&b": 1, "=1": 0, long65: 0, "a\tb": 1, // the chapter's
		",": 0, " ,": 1, "a,,b": 2, "a, ": 3, "a ,, b": 3, ", a": 0,
		"!": 1, "! ": 2, "!!a": 1, "! !a": 2, "!,a": 1, "!(a)": 1, "!a b": 3, "!a in (x)": 3, "!a!=x": 2, "!a!": 2, "!a==x": 2, "a,!": 3, "a,!,b": 3, "a,! ": 4, `!""`: 1, "!" + long65: 1, `!"a`: 1,
		"!=a": 1, "!=": 1, "!==": 1, "a,!=b": 3, "! =a": 2, // a ! may stand there, a = may not
		"a!": 1, "a !": 2, "a! ": 1, "a!b": 1, "a! =1": 1, "a !b=1": 2, "a!,b": 1, "a!!=1": 1, "a!=": 3, "a!= ": 4, "a!==1": 3, "a!=,": 3, "a!=!b": 3, `a!="`: 3, "a!=1!": 4, "a=1!=2": 3, "a=!1": 2, "a=1!": 3, "a in (x)!": 8, "a in!": 4,
		"=": 0, "==": 0, "(": 0, ")": 0, "(a)": 0, "a)": 1, "a(": 1, "a (x)": 2, "a=(x)": 2, "a=1)": 3, "a=1(": 3,
		"a= ": 3, "a==": 3, "a== ": 4, "a===1": 3, "a = = 1": 4, "a = ==1": 4, "a=,b": 2, "a=b c": 4, "a=b in (x)": 4, "a=1,=2": 4, "a==b==c": 4,
		"a in": 4, "a in ": 5, "a in(": 5, "a in ( ": 7, "a in (,x)": 6, "a in (x,": 8, "a in (x,)": 8, "a in (x,,y)": 8, "a in (x y)": 8, "a in (x=y)": 7, "a in (x ": 8, "a in (x,y": 9, "a in ((x))": 6, "a in (x))": 8, "a in (x)(y)": 8, "a in (x) (y)": 9, "a in (x)b": 8, "a in (x) b": 9, "a in (x)=b": 8, "a in (!x)": 6, "a in (x!)": 7, "a in in (x)": 5, "a in =x": 5, "a in, b": 4, "a in (x)in(y)": 8, "a in (" + long65 + ")": 6, "a in (x," + long65 + ")": 8, `a in ("`: 6, `a in (x,"y)`: 8, "a in (x,\"\xff\")": 8,
		"a notin": 7, "a notin ": 8, "a notin x": 8, "a notin ()": 9, "a notin (x": 10, "a not in (x)": 2, "a notinx (y)": 2, "a inx": 2, "a IN (x)": 2, "a In (x)": 2, "a NotIn (x)": 2, "a in.(x)": 2, "a !in (x)": 2, `a "in" (x)`: 2, `a "notin" (x)`: 2, `a "\u0069n" (x)`: 2, "in(x)": 2, "notin (x)": 6, "in in": 5, "in in in": 6, "in notin": 8,
		"a\"b\"": 1, `"a"b`: 3, `"a""b"`: 3, `"a" "b"`: 4, `a="b""c"`: 5, `a="b"c`: 5, `a=b"c"`: 3, `"a`: 0, `"`: 0, `"a\"`: 0, `"\x"`: 0, `"\ud83d"`: 0, `"\ude00"`: 0, "\"\n\"": 0, "\"\xff\"": 0, "\"\xed\xa0\x80\"": 0, ` "a`: 1, `a,"b`: 2, `a,""`: 2, `a,"",b`: 2, `a "b`: 2, `""=a`: 0, `"" in (x)`: 0, `"` + long65 + `"`: 0, `"` + strings.Repeat(`\u006b`, 65) + `"`: 0, `a="` + long65 + `"`: 2, `a="` + strings.Repeat("\u00e9", 33) + `"`: 2, `'a'`: 0, "a='b'": 2,
		"a " + long65: 2, "a=" + long65: 2, "a=1," + long65: 4, long65 + "=": 0, long64 + "=" + long65: 65, strings.Repeat("k", 129): 0,
		"\t": 0, "a\t": 1, "\ta": 0, "a\n": 1, "a\r": 1, "a \v": 2, "a\x00": 1, "\x00": 0, "a\u00a0": 1, "\u00e9": 0, "a\u00e9": 1, "a=\u00e9": 2, "\xff": 0, "a\xff": 1, "a=\xff": 2, "a=1\xff": 3, "\ufeffa": 0, "a\x7f": 1,
		"a+b": 1, "a:b": 1, "a;b": 1, "a<b": 1, "a>b": 1, "a@b": 1, "a[": 1, "a{": 1, "a`": 1, "a~": 1, "a*": 1, "a|b": 1, "a#": 1, "a$": 1, "a%": 1, "a^": 1, "a?": 1, "a\\": 1, "a'": 1, "*": 0,
	} {
		l, place, e := Parse(s)
		if place != want || e != api.ErrSelector || len(l) != 0 {
			t.Errorf("P20.1: Parse(%q) = %s, %d, %d, want the place %d", s, show(l), place, e, want)
		}
		checkText(t, s)
	}
}

// The longest texts: one byte more is too long, whatever stands there.
func TestLongTexts(t *testing.T) {
	for _, c := range []struct {
		s     string
		terms int
		place int
	}{
		{strings.Repeat(" ", mostText), 0, -1},
		{strings.Repeat(" ", mostText+1), 0, mostText},
		{strings.Repeat(",", mostText+1), 0, mostText},
		{strings.Repeat(",", mostText), 0, 0},
		{strings.Repeat("a,", mostText/2-1) + "bc", mostText / 2, -1},
		{strings.Repeat("a,", mostText/2-1) + "bcd", 0, mostText},
		{strings.Repeat("a,", mostText/2), 0, mostText},
		{strings.Repeat("a", mostText), 0, 0},
		{`"` + strings.Repeat("a", mostText-2) + `"`, 0, 0},
		{"a " + strings.Repeat("a", mostText-2), 0, 2},
		{"a" + strings.Repeat(" ", mostText-2) + "b", 0, mostText - 1},
		{"a=1" + strings.Repeat(" ", mostText-3), 1, -1},
		{"a in (" + strings.Repeat("x,", mostText/2-4) + "x)", 1, -1},
		{"a in (" + strings.Repeat("x,", mostText/2-4) + "x,", 0, mostText},
	} {
		l, place, e := Parse(c.s)
		want := api.OK
		if c.place >= 0 {
			want = api.ErrSelector
		}
		if len(l) != c.terms || place != c.place || e != want {
			t.Errorf("P20.1: Parse(%q) = %d terms, %d, %d, want %d, %d", cut(c.s), len(l), place, e, c.terms, c.place)
		}
	}
	l, _, _ := Parse("a in (" + strings.Repeat("y,x,", mostText/4-2) + "x)")
	if !same(l, []api.Term{in("a", "x", "y")}) {
		t.Errorf("P20.1: values that stand often: %s", show(l))
	}
	s, e := Print(slices.Repeat([]api.Term{in("a", "x", "y")}, 100000))
	if len(s) != 100000*len("a in (x,y),")-1 || e != api.OK {
		t.Errorf("P20.2: a text longer than may be read: %d bytes, %d", len(s), e)
	}
}

func TestTerms(t *testing.T) {
	for i, c := range []struct {
		t  api.Term
		is bool
	}{
		{hasKey("a"), true}, {hasNot("a"), true}, {in("a", "x"), true}, {notIn("a", "x"), true}, {in("a", ""), true}, {notIn("a", "", "x"), true},
		{api.Term{}, false}, {hasKey(""), false}, {hasNot(""), false}, {in("", "x"), false}, {notIn("", "x"), false},
		{api.Term{Key: "a"}, false}, {api.Term{Key: "a", Vals: []string{"x"}}, false}, {api.Term{Key: "a", Op: 5}, false}, {api.Term{Key: "a", Op: 5, Vals: []string{"x"}}, false}, {api.Term{Key: "a", Op: -1}, false}, {api.Term{Key: "a", Op: api.In + 1<<32, Vals: []string{"x"}}, false},
		{api.Term{Key: "a", Op: api.Has, Vals: []string{}}, true}, {api.Term{Key: "a", Op: api.Has, Vals: []string{""}}, false}, {api.Term{Key: "a", Op: api.HasNot, Vals: []string{}}, true}, {api.Term{Key: "a", Op: api.HasNot, Vals: []string{"x"}}, false},
		{in("a"), false}, {notIn("a"), false}, {api.Term{Key: "a", Op: api.In, Vals: []string{}}, false},
		{in("a", "x", "y"), true}, {in("a", "y", "x"), false}, {in("a", "x", "x"), false}, {notIn("a", "y", "x"), false}, {notIn("a", "x", "x"), false}, {in("a", "x", "y", "x"), false}, {in("a", "a", "b", "b"), false}, {in("a", "B", "a"), true}, {in("a", "a", "B"), false}, {in("a", "", ""), false}, {in("a", "x", ""), false}, {in("a", "x", "x\x00"), true}, {in("a", "10", "9"), true}, {in("a", "\uffff", "\U00010000"), true},
		{hasKey("\xff"), false}, {hasKey("a\xc3"), false}, {hasNot("\xed\xa0\x80"), false}, {in("\xff", "x"), false}, {in("a", "\xff"), false}, {in("a", "x", "\xff"), false}, {notIn("a", "\xff", "\xff\xff"), false}, {hasKey("\u00e9\x00 \""), true},
		{hasKey(long64), true}, {hasKey(long65), false}, {hasNot(long65), false}, {in("a", long64), true}, {in("a", long65), false}, {notIn("a", "a", long65), false}, {in(long65, "x"), false}, {hasKey(strings.Repeat("\u00e9", 32)), true}, {hasKey(strings.Repeat("\u00e9", 33)), false}, {hasKey(strings.Repeat("\x00", 64)), true},
	} {
		for _, l := range [][]api.Term{{c.t}, {hasNot("b"), c.t}, {c.t, hasNot("b")}, {hasNot("b"), c.t, hasNot("c")}} {
			if checkTerms(t, l) != c.is {
				t.Errorf("P20.2: the term %d is a selector's: %t", i, !c.is)
			}
			for _, m := range [][]api.Member{nil, {label("a", "x")}, {label("a", "")}} {
				if checkLabels(t, l, m) && !c.is {
					t.Errorf("P20.3: the term %d chooses", i)
				}
			}
		}
	}
}

func TestMatch(t *testing.T) {
	for _, c := range []struct {
		s   string
		l   []api.Member
		yes bool
	}{
		{"a=1", []api.Member{label("a", "1")}, true}, {"a=1", []api.Member{at("a", num(1))}, false}, {"a=1", nil, false}, {"a!=1", nil, true}, {"!a", []api.Member{at("a", num(5))}, true}, // the chapter's
		{"", nil, true}, {"", []api.Member{label("a", "1")}, true},
		{"a", []api.Member{label("a", "")}, true}, {"a", []api.Member{label("b", "")}, false}, {"a", []api.Member{label("A", "")}, false}, {"a", nil, false},
		{"!a", nil, true}, {"!a", []api.Member{label("a", "")}, false}, {"!a", []api.Member{label("b", "")}, true},
		{`a=""`, nil, false}, {`a=""`, []api.Member{label("a", "")}, true}, {`a!=""`, nil, true}, {`a!=""`, []api.Member{label("a", "")}, false},
		{"a in (x,y)", []api.Member{label("a", "y")}, true}, {"a in (x,y)", []api.Member{label("a", "z")}, false}, {"a notin (x,y)", []api.Member{label("a", "y")}, false}, {"a notin (x,y)", []api.Member{label("a", "z")}, true}, {"a notin (x,y)", []api.Member{at("a", num(1))}, true},
		{"a=x,b=y", []api.Member{label("a", "x"), label("b", "y")}, true}, {"a=x,b=y", []api.Member{label("b", "y"), label("a", "x")}, true}, {"a=x,b=y", []api.Member{label("a", "x")}, false}, {"a=x,b=y", []api.Member{label("b", "y")}, false},
		// members that no value has: several of a key, other kinds, more in a label than its text
		{"a=x", []api.Member{label("a", "x"), label("a", "y")}, true}, {"a=y", []api.Member{label("a", "x"), label("a", "y")}, false}, {"a=x", []api.Member{at("a", num(1)), label("a", "x")}, true}, {"a=x", []api.Member{{Key: "a"}, label("b", "x"), label("a", "x"), label("a", "y")}, true}, {"a=x", []api.Member{label("a", ""), label("a", "x")}, false}, {`a=""`, []api.Member{label("a", ""), label("a", "x")}, true},
		{"a=x", []api.Member{at("a", api.Value{Kind: api.Int, Str: "x"})}, false}, {"a=x", []api.Member{at("a", api.Value{Kind: 9, Str: "x"})}, false}, {"a=x", []api.Member{at("a", api.Value{Str: "x"})}, false}, {"!a", []api.Member{at("a", api.Value{Kind: api.List, Str: "x"})}, true},
		{"a=x", []api.Member{at("a", api.Value{Kind: api.Str, Str: "x", Bool: true, Int: 7, List: []api.Value{num(1)}, Map: []api.Member{label("a", "y")}})}, true},
		{"a", []api.Member{label("a", "\xff")}, true}, {"a!=x", []api.Member{label("a", "\xff")}, true}, {"a", []api.Member{label("a", strings.Repeat("v", 5000))}, true}, {"a", []api.Member{label("", "x"), label("\xff", "x"), label(long65, "x"), label("a", "x")}, true},
	} {
		l, _, e := Parse(c.s)
		if e != api.OK || checkLabels(t, l, c.l) != c.yes {
			t.Errorf("P20.3: Match(%s, %+v) is not %t", c.s, c.l, c.yes)
		}
	}
}

// deep is a value of a depth: lists in lists.
func deep(n int) api.Value {
	v := api.Value{Kind: api.List}
	for range n {
		v = api.Value{Kind: api.List, List: []api.Value{v}}
	}
	return v
}

func wide(n int) api.Value { return api.Value{Kind: api.List, List: make([]api.Value, n)} }

func TestLabels(t *testing.T) {
	a := label("a", "x")
	inItself := labelled(a)
	inItself.Map = append(inItself.Map, api.Member{Key: "x"})
	inItself.Map[1].Val = inItself
	besides := func(v api.Value) api.Value { return dict(at("labels", dict(a)), at("x", v)) }
	for i, c := range []struct {
		v    api.Value
		want []api.Member
	}{
		{labelled(a, at("b", num(1))), []api.Member{a}}, {dict(at("labels", text("x"))), nil}, {api.Value{Kind: api.List}, nil}, // the chapter's
		{labelled(label("", ""), label("a", "x"), label("b", "\u00e9"), label("c", strings.Repeat("v", 100))), []api.Member{label("", ""), label("a", "x"), label("b", "\u00e9"), label("c", strings.Repeat("v", 100))}},
		{labelled(), nil}, {dict(), nil}, {api.Value{}, nil}, {text("labels"), nil}, {num(5), nil}, {api.Value{Kind: api.Bool, Bool: true}, nil},
		{labelled(at("a", api.Value{}), label("b", "x"), at("c", dict(label("labels", "x"))), at("d", api.Value{Kind: api.List, List: []api.Value{text("x")}}), at("e", api.Value{Kind: api.Bool}), label("f", "y")), []api.Member{label("b", "x"), label("f", "y")}},
		{dict(at("labels", api.Value{})), nil}, {dict(at("labels", num(1))), nil}, {dict(at("labels", api.Value{Kind: api.List, List: []api.Value{dict(a)}})), nil},
		{dict(at("Labels", dict(a))), nil}, {dict(at("label", dict(a))), nil}, {dict(at("labels2", dict(a))), nil}, {dict(at("x", labelled(a))), nil}, {labelled(at("labels", dict(a))), nil}, {api.Value{Kind: api.List, List: []api.Value{labelled(a)}}, nil},
		{dict(at("a", dict(label("b", "x"))), at("labels", dict(a)), at("z", num(1))), []api.Member{a}},
		{besides(num(1)), []api.Member{a}}, {besides(deep(31)), []api.Member{a}}, {besides(deep(32)), nil}, {besides(deep(39)), nil}, {besides(deep(100)), nil}, {besides(wide(65532)), []api.Member{a}}, {besides(wide(65533)), nil},
		{besides(text(strings.Repeat("s", mostText-9))), []api.Member{a}}, {besides(text(strings.Repeat("s", mostText-8))), nil},
		{besides(api.Value{Kind: 9}), nil}, {besides(text("\xff")), nil}, {besides(api.Value{Kind: api.Int, Str: "x"}), nil}, {dict(at("x", num(1)), at("labels", dict(a))), nil}, {dict(at("labels", dict(a)), at("labels", dict(a))), nil},
		{labelled(label("b", "x"), label("a", "x")), nil}, {labelled(a, a), nil}, {labelled(label("a", "\xff")), nil}, {labelled(label("\xff", "a")), nil}, {labelled(a, at("b", api.Value{Kind: api.Str, Str: "x", Int: 1})), nil},
		{api.Value{Kind: 9, Map: labelled(a).Map}, nil}, {api.Value{Map: labelled(a).Map}, nil}, {api.Value{Kind: api.List, Map: labelled(a).Map}, nil}, {dict(at("labels", api.Value{Map: []api.Member{a}})), nil}, {inItself, nil},
	} {
		if l := Labels(c.v); !same(l, c.want) {
			t.Errorf("P20.3: Labels of the value %d: %+v, want %+v", i, l, c.want)
		}
	}
	many := make([]api.Member, 65534)
	for i := range many {
		many[i] = label(string(rune('0'+i/4096))+string(rune('0'+i/64%64))+string(rune('0'+i%64)), "")
	}
	if l := Labels(labelled(many...)); !same(l, many) {
		t.Errorf("P20.3: as many labels as can be: %d", len(l))
	}
}

func TestSimplify(t *testing.T) {
	for _, c := range []struct {
		s, want string
		can     bool
	}{
		{"a in (x,y), a!=x, a", "a=y", true}, {"a=x, a=y", "", false}, {"!a, a!=x", "!a", true}, {"a, !a", "", false}, {"a!=y, a!=x, b", "a notin (x,y),b", true}, // the chapter's
		{"", "", true}, {"a", "a", true}, {"a,a", "a", true}, {"!a", "!a", true}, {"!a,!a", "!a", true}, {"!a,a", "", false}, {"b,!a,a", "", false}, {"!a,a=x", "", false}, {"a=x,!a", "", false}, {"!a,a,a!=x", "", false}, {"!a,a!=x,a!=y", "!a", true}, {"!a,a=x,a!=x", "", false},
		{"a=x", "a=x", true}, {"a=x,a", "a=x", true}, {"a,a=x", "a=x", true}, {"a=x,a=x", "a=x", true}, {"a=x,a!=x", "", false}, {"a!=x,a=x", "", false}, {"a=x,a!=y", "a=x", true}, {"a in (x,y),a notin (x,y)", "", false}, {"a in (x,y),a!=x,a!=y", "", false}, {"a in (x,y,z),a in (w,y,z),a in (y,z)", "a in (y,z)", true}, {"a in (x,y),a in (y,z),a in (x,z)", "", false}, {"a in (x,y),a in (z,w),a in (x,y)", "", false}, {"a in (u,v,w,x),a notin (v,y),a in (v,w,x,z),a!=x", "a=w", true},
		{"a!=x", "a!=x", true}, {"a!=x,a", "a,a!=x", true}, {"a,a!=x", "a,a!=x", true}, {"a notin (x,z),a notin (y,z),a", "a,a notin (x,y,z)", true}, {"a!=x,a!=x", "a!=x", true}, {"a notin (c,d),a!=b,a!=a", "a notin (a,b,c,d)", true},
		{"c,b=1,a!=x,!d", "a!=x,b=1,c,!d", true}, {"b,a,B,A", "A,B,a,b", true}, {"a10,a9", "a10,a9", true}, {"b=x,a,b=x,a!=y,b", "a,a!=y,b=x", true}, {"a,b=x,b=y", "", false}, {"z=x,z=y,a", "", false}, {`a="",a!=x`, `a=""`, true}, {`a="",a!=""`, "", false}, {`a!="",a`, `a,a!=""`, true}, {"\"\u00e9\",\"~\",a", "a,\"~\",\"\u00e9\"", true},
	} {
		l, _, e := Parse(c.s)
		m, can := Simplify(l)
		s, e2 := Print(m)
		if e != api.OK || e2 != api.OK || s != c.want || can != c.can || !can && len(m) > 0 {
			t.Errorf("P20.4: Simplify(%s) = %s, %t, want %s, %t", c.s, s, can, c.want, c.can)
		}
		checkText(t, c.s)
	}
}
