package json

import (
	"bytes"
	"math/rand"
	"slices"
	"strings"
	"testing"

	"freehold/api"
)

func TestCanon(t *testing.T) {
	for s, want := range map[string]string{
		` {"b":[1,-0,"x"],"a":{}} `: `{"a":{},"b":[1,0,"x"]}`, "\n[ true , false,null ]\t\r": "[true,false,null]", `"\u0061\/\u000A"`: `"a/\n"`, `"\ud83d\ude00"`: "\"\U0001f600\"", "-0": "0", " 1 ": "1", "{ }": "{}", `{"b":1,"":2,"a":3}`: `{"":2,"a":3,"b":1}`, brackets(33, " "): brackets(33, ""),
	} {
		b, at, e := Canon([]byte(s))
		if e != api.OK || at != -1 || string(b) != want {
			t.Errorf("P3.3: Canon(%q) = %q, %d, %d, want %q", s, b, at, e, want)
		}
	}
	long := `"` + strings.Repeat("a", 1048574) + `"`
	if b, at, e := Canon([]byte(long)); e != api.OK || at != -1 || string(b) != long {
		t.Errorf("P3.3: Canon of a long text: %d bytes, %d, %d", len(b), at, e)
	}
}

func TestCanonRefuses(t *testing.T) {
	for _, s := range []string{"", " ", "01", " 1.5", "[1,]", "nul", "nulx", "1 2", `{"a":1,"\u0061":2}`, `["a`, `["\x"]`, "[\"\xff\"]", brackets(34, ""), strings.Repeat("[", 33) + "1", strings.Repeat(" ", 1048576), strings.Repeat(" ", 1048577), "[" + strings.Repeat("1,", 65535) + "1]"} {
		_, at, e := wantParse(s, 32)
		if b, p, f := Canon([]byte(s)); b != nil || p != at || f != e || f == api.OK {
			t.Errorf("P3.3: Canon(%s) = %s, %d, %d, want no text, %d, %d", short(s), short(string(b)), p, f, at, e)
		}
	}
}

func TestCanonIsOne(t *testing.T) {
	r := rand.New(rand.NewSource(37))
	for range 20000 {
		v := pick(r, 4)
		s, other := loosely(r, v), loosely(r, v)
		a, _, e := Canon([]byte(s))
		b, _, f := Canon([]byte(other))
		c, at, g := Canon(a)
		printed, _ := Print(v, 32)
		switch {
		case e != api.OK || f != api.OK || g != api.OK || at != -1:
			t.Fatalf("P3.3: Canon(%q): %d, %d, %d", s, e, f, g)
		case len(a) > len(s):
			t.Fatalf("P3.3: Canon(%q) = %q is longer", s, a)
		case !bytes.Equal(a, c):
			t.Fatalf("P3.5: Canon(%q) = %q, and of that %q", s, a, c)
		case !bytes.Equal(a, b) || !bytes.Equal(a, printed) || string(a) != wantPrint(v):
			t.Fatalf("P3.5: the value of %q and %q has the texts %q, %q, %q", s, other, a, b, printed)
		}
	}
}

func TestSplit(t *testing.T) {
	for s, want := range map[string]api.Value{
		"": list(), "1": list(num(1)), "1\n": list(num(1)), "1\n2": list(num(1), num(2)), "1\n [2] \n\"x\"\n": list(num(1), list(num(2)), text("x")), "null\r\nnull\r\n": list(null, null), "{}\n\t[ ]": list(object(), list()),
		brackets(33, "") + "\n" + brackets(33, ""): list(lists(32, list()), lists(32, list())),
	} {
		l, at, e := Split([]byte(s))
		if e != api.OK || at != -1 || !same(list(l...), want) {
			t.Errorf("P3.4: Split(%q) = %s, %d, %d, want %s", s, wantPrint(list(l...)), at, e, wantPrint(want))
		}
	}
	full := "[" + strings.Repeat("1,", 65534) + "1]\n"
	if l, at, e := Split([]byte(strings.Repeat(full, 7))); e != api.OK || at != -1 || len(l) != 7 || len(l[6].List) != 65535 {
		t.Errorf("P3.4: Split of lines with as many values as may be: %d, %d", at, e)
	}
	ones := strings.Repeat("1\n", 524288)
	if l, at, e := Split([]byte(ones)); e != api.OK || at != -1 || len(l) != 524288 {
		t.Errorf("P3.4: Split of many lines: %d, %d", at, e)
	}
}

func TestSplitRefuses(t *testing.T) {
	for _, x := range []struct {
		s    string
		line int
		e    api.Errno
	}{
		{"\n", 0, api.ErrTextEnd}, {"1\n\n2", 1, api.ErrTextEnd}, {"1\n\n", 1, api.ErrTextEnd}, {"\n1", 0, api.ErrTextEnd}, {" ", 0, api.ErrTextEnd}, {"1\n ", 1, api.ErrTextEnd}, {"1\n\r", 1, api.ErrTextEnd}, {"[\n]", 0, api.ErrTextEnd}, {"1\n[1,\n2]", 1, api.ErrTextEnd},
		{"1\n2,", 1, api.ErrTextMore}, {"1\n2 3\n", 1, api.ErrTextMore}, {"x\n01", 0, api.ErrTextByte}, {"1\n2\n01\nx", 2, api.ErrTextNum}, {"\"a\nb\"", 0, api.ErrQuote}, {"1\n\"\\x\"", 1, api.ErrEscape}, {"1\n2\n\"\xff\"", 2, api.ErrUTF}, {"{\"a\":1,\"a\":1}", 0, api.ErrTextKey},
		{"1\n" + brackets(34, ""), 1, api.ErrDeep}, {"1\n[" + strings.Repeat("1,", 65535) + "1]\n", 1, api.ErrNodes},
		{strings.Repeat("1\n", 524288) + "x", 0, api.ErrTextLong}, {strings.Repeat("1\n", 524287) + "1x", 524287, api.ErrTextMore}, {strings.Repeat("\n", 1048577), 0, api.ErrTextLong}, {"x" + strings.Repeat(" ", 1048576), 0, api.ErrTextLong},
	} {
		if l, at, e := Split([]byte(x.s)); l != nil || at != x.line || e != x.e {
			t.Errorf("P3.4: Split(%s) = %d values, %d, %d, want none, %d, %d", short(x.s), len(l), at, e, x.line, x.e)
		}
	}
}

func TestSplitByTheWords(t *testing.T) {
	r, refused := rand.New(rand.NewSource(38)), 0
	for range 20000 {
		var lines []string
		for range r.Intn(4) {
			s := strings.ReplaceAll(loosely(r, pick(r, 2)), "\n", "")
			if r.Intn(6) == 0 {
				s = spoil(r, s)
			}
			lines = append(lines, s)
		}
		s := strings.Join(lines, "\n")
		want, line, errno := list(), -1, api.OK
		for i, one := range lines {
			if v, _, e := wantParse(one, 32); e == api.OK {
				want.List = append(want.List, v)
			} else if one != "" || i < len(lines)-1 {
				want, line, errno = list(), i, e
				break
			}
		}
		if l, at, e := Split([]byte(s)); at != line || e != errno || !same(list(l...), want) {
			t.Fatalf("P3.4: Split(%q) = %s, %d, %d, want %s, %d, %d", s, wantPrint(list(l...)), at, e, wantPrint(want), line, errno)
		}
		if errno != api.OK {
			refused++
		}
	}
	if refused < 500 || refused > 15000 {
		t.Errorf("%d of 20000 are refused", refused)
	}
}

func TestBlanksChangeNothing(t *testing.T) {
	r := rand.New(rand.NewSource(39))
	for range 20000 {
		v := pick(r, 4)
		s := ""
		for _, token := range tokens(wantPrint(v)) {
			s += blank(r) + token
		}
		s += blank(r)
		if w, at, e := Parse([]byte(s), 4); e != api.OK || at != -1 || !same(v, w) {
			t.Fatalf("P3.7: %q, with blanks of %s: %d, %d", s, wantPrint(v), at, e)
		}
	}
	for _, token := range []string{"[", "1", ",", `"a"`, "]"} {
		s := strings.Replace(`[1,"a"]`, token, token+strings.Repeat(" \t\n\r", 262142)+" ", 1)
		if v, at, e := Parse([]byte(s), 1); len(s) != 1048576 || e != api.OK || at != -1 || !same(v, list(num(1), text("a"))) {
			t.Errorf("P3.7: many blanks behind %s: %d, %d", token, at, e)
		}
		checkFault(t, s+" ", 1, 0, api.ErrTextLong)
	}
}

func TestBeginnings(t *testing.T) {
	r, seen := rand.New(rand.NewSource(40)), map[api.Errno]int{}
	values := []api.Value{list(), object(), text(""), text("\u00e9\U0001f600\x00\\"), list(num(-12), num(-9), boolean(true), boolean(false), null), object(at("a", num(-1)), at("b\n", list(num(0))))}
	for range 3000 {
		if v := pick(r, 4); v.Kind >= api.Str {
			values = append(values, v)
		}
	}
	for _, v := range values {
		b, _ := Print(v, 40)
		for n := range b {
			w, at, e := Parse(b[:n], 40)
			seen[e]++
			minus := n > 0 && b[n-1] == '-' && e == api.ErrTextNum && at == n-1
			end := at == n && slices.Contains([]api.Errno{api.ErrTextEnd, api.ErrQuote, api.ErrUTF, api.ErrEscape}, e)
			if !minus && !end || !same(w, null) {
				t.Fatalf("P3.7: the beginning %q of %q: %d, %d", b[:n], b, at, e)
			}
		}
	}
	if len(seen) != 5 {
		t.Errorf("too few of the errors: %v", seen)
	}
}

// spare is bytes with more behind them.
func spare(s string) []byte { return append([]byte(s), "\x01\x02\x03"...)[:len(s)] }

func TestWhatIsHandedIn(t *testing.T) {
	const s = "[\"abc\",{\"key\":[\"x\\ny\",1,{}]},[[]]]\n"
	for what, call := range map[string]func(b []byte) []api.Value{
		"Parse": func(b []byte) []api.Value { v, _, _ := Parse(b, 32); return []api.Value{v} },
		"Split": func(b []byte) []api.Value { l, _, _ := Split(b); return l },
		"Canon": func(b []byte) []api.Value { c, _, _ := Canon(b); v, _, _ := Parse(c, 32); return []api.Value{v} },
	} {
		b := spare(s)
		l := call(b)
		if string(b[:cap(b)]) != string(spare(s)[:cap(b)]) {
			t.Errorf("P3.8: %s changes what is handed in", what)
		}
		want, _, _ := wantParse(s, 32)
		for i := range b[:cap(b)] {
			b[:cap(b)][i] = 'x'
		}
		if len(l) != 1 || !same(l[0], want) {
			t.Errorf("P3.8: %s keeps what is handed in", what)
		}
	}
	v, _, _ := wantParse(s, 32)
	v = roomy(v)
	ahead := whole(roomy(v))
	Print(v, 32)
	if !same(whole(v), ahead) {
		t.Error("P3.8: Print changes what is handed in")
	}
}

func TestAnswersAreNewMemory(t *testing.T) {
	r := rand.New(rand.NewSource(41))
	for range 3000 {
		v := roomy(pick(r, 4))
		s := spare(strings.ReplaceAll(loosely(r, v), "\n", ""))
		a, _, _ := Parse(s, 32)
		b, _, _ := Parse(s, 32)
		l, _, _ := Split(slices.Concat(s, []byte{'\n'}, s))
		k, _, _ := Split(slices.Concat(s, []byte{'\n'}, s))
		p, _ := Print(v, 32)
		q, _ := Print(v, 32)
		c, _, _ := Canon(s)
		d, _, _ := Canon(p)
		all := slices.Concat(rooms(v), rooms(a), rooms(b), rooms(list(l...)), rooms(list(k...)))
		for _, x := range [][]byte{s, p, q, c, d} {
			all = append(all, roomOf(x)...)
		}
		checkApart(t, string(s), all)
		if t.Failed() {
			return
		}
	}
}
