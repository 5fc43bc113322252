package feed

import (
	"bytes"
	"fmt"
	"runtime"
	"strings"
	"testing"
	"time"

	"freehold/api"
	"freehold/store"
)

// hold holds an answer against what the chapter says.
func hold(t *testing.T, what, want string, got ...any) {
	t.Helper()
	if s := fmt.Sprintln(got...); s != want+"\n" {
		t.Errorf("%s = %swant %s", what, s, want)
	}
}

// someKeys lie close to one another in their order, or begin alike.
var someKeys = []string{"a", "x", "x.", "x/", "x/\x00", "x/a", "x/a\x00", "x/a/b", "x/aa", "x/b", "x0", "xy/a", "y/c", "\xff/a", "\x00"}

// someData is records with labels, and bytes of which there are none.
func someData() [][]byte {
	return [][]byte{
		marked("1"), marked("2"), marked(""), rec(`{"t":"1","u":"1"}`, 0), rec(`{"u":"1"}`, 0), rec(`{}`, 0),
		rec(`{"t":1}`, 0), rec(`{"t":["1"]}`, 0), rec(`"t"`, 0), rec(`["t"]`, 0), []byte(`{"owners":[],"value":{"t":"1"}}`), []byte(`{"owners":[],"value":1}`), []byte(`{"owners":[{"fields":{".labels":{".t":{}}},"manager":"m","way":"apply"}],"value":{"labels":{"t":"1"}}}`),
		nil, []byte("none"), []byte(`{"labels":{"t":"1"}}`), []byte(`{"value":{"labels":{"t":"1"}}}`), []byte(`{"owners":[],"value":{"labels":{"t":"1"}} }`), []byte(`{"value":{"labels":{"t":"1"}},"owners":[]}`), append(marked("1"), '\n'), []byte("{\"owners\":[],\"value\":{\"labels\":{\"t\":\"1\",\"\xff\":\"1\"}}}"),
	}
}

var someSelectors = []string{"", "t=1", "t!=1", "t", "!t", "t in (1,2)", `t=""`, "t=1,u", "u,!t", "t=1,t=2"}

func begun(t *testing.T) *world {
	t.Helper()
	w := newWorld(t, 0)
	w.put("x/a", rec(`{"t":"1"}`, 0))
	w.put("x/b", []byte("none"))
	w.put("y/c", []byte("more"))
	return w
}

func TestExamples(t *testing.T) {
	const next = `{"after":"x/a","kind":"x","rev":3,"selector":""}`
	w := begun(t)
	page := func(kind, sel string, limit int, token, want string) {
		t.Helper()
		p := w.checkPage(kind, sel, limit, token)
		keys := []string{}
		for _, x := range p.L {
			keys = append(keys, x.Key)
		}
		hold(t, fmt.Sprintf("P21.2: Page(%s, %s, %d, %s)", kind, sel, limit, token), want, keys, p.Rev, p.Next, p.E)
	}
	page("x", "", 1, "", "[x/a] 3 "+next+" 0")
	page("x", "", 1, next, "[x/b] 3  0")
	page("x", "  ", 2, "", "[x/a x/b] 3  0")
	page("y", "", 1, next, "[] 0  210")
	page("", "", 1, next, "[] 0  210")
	page("x", "t", 1, next, "[] 0  210")
	page("", "t=1", 9, "", "[x/a] 3  0")
	page("", "!t", 1, "", "[x/b] 3 {\"after\":\"x/b\",\"kind\":\"\",\"rev\":3,\"selector\":\"!t\"} 0")
	page("x", "", 0, "", "[] 0  2")
	page("x", "", 501, "", "[] 0  2")
	page("x", "", -1, "", "[] 0  2")
	page("x", "", 500, "", "[x/a x/b] 3  0")
	page("z", "", 500, "", "[] 3  0")
	events := func(kind string, after, limit int, want string) {
		t.Helper()
		x := w.checkEvents(kind, after, limit)
		keys := []string{}
		for _, x := range x.L {
			keys = append(keys, fmt.Sprintf("%d:%d:%s", x.Rev, x.Kind, x.Key))
		}
		hold(t, fmt.Sprintf("P21.3: Events(%s, %d, %d)", kind, after, limit), want, keys, x.On, x.E)
	}
	events("x", 0, 1, "[1:1:x/a] 1 0")
	events("x", 1, 9, "[2:1:x/b] 3 0")
	events("x", 0, 2, "[1:1:x/a 2:1:x/b] 3 0")
	events("y", 3, 1, "[] 3 0")
	events("y", 0, 1, "[3:1:y/c] 3 0")
	events("z", 0, 1, "[] 3 0")
	events("", 0, 2, "[1:1:x/a 2:1:x/b] 2 0")
	events("", 4, 1, "[] 0 196")
	events("", -1, 1, "[] 0 2")
	events("", 0, 0, "[] 0 2")
	events("", 9, 501, "[] 0 2")
	events("", 0, 500, "[1:1:x/a 2:1:x/b 3:1:y/c] 3 0")
}

// The first error in the chapter's order is told, whatever else is wrong.
func TestFirstError(t *testing.T) {
	w := begun(t)
	w.put("x/a", nil)
	w.st.Compact(2)
	var none *store.Store
	for _, st := range []*store.Store{none, w.st} {
		for _, sel := range []string{"", "=", "t=1"} {
			for _, limit := range []int{-1 << 63, -1, 0, 1, 500, 501, 1<<63 - 1} {
				for _, rev := range []int{-1, 0, 1, 2, 4, 5, mostRev, mostRev + 1} {
					for _, token := range []string{"", "{}", fmt.Sprintf(`{"after":"","kind":"x","rev":%d,"selector":""}`, rev), fmt.Sprintf(`{"after":"","kind":"x","rev":%d,"selector":"t=1"}`, rev)} {
						if st != nil {
							w.checkPage("x", sel, limit, token)
						} else if l, rev, next, e := Page(nil, "x", sel, limit, token); l != nil || rev != 0 || next != "" || e != api.ErrNil {
							t.Errorf("P21.2: a page of no store: %v, %d, %s, %d", l, rev, next, e)
						}
					}
					if st != nil {
						w.checkEvents("x", rev, limit)
					} else if l, on, e := Events(nil, "x", rev, limit); l != nil || on != 0 || e != api.ErrNil {
						t.Errorf("P21.3: events of no store: %v, %d, %d", l, on, e)
					}
				}
			}
		}
	}
}

func TestTokens(t *testing.T) {
	texts := []string{"", "x", "x/a", "x/\u00e9", "\U0001f600", "\"\\/\b\t\n\f\r\x00\x1f\x7f", "\u2028<>&", "{}", strings.Repeat("k", 300), "\xff", "a\xc3", "\xed\xa0\x80", "\xf4\x90\x80\x80"}
	good := 0
	for _, rev := range []int{-1 << 63, -1, 0, 1, 9, 10, mostRev - 1, mostRev, mostRev + 1, 1<<63 - 1} {
		for i, kind := range texts {
			for _, after := range texts {
				sel := pickedSelector(i + len(after))
				if _, e := checkToken(t, rev, kind, sel, after); e == api.OK {
					good++
				}
			}
		}
	}
	if good != 6*9*9 {
		t.Errorf("P21.1: %d tokens", good)
	}
	for _, sel := range []string{"", " ", " t == 1 ", `"a b"="c,d"`, "a notin (c,b,b)", "!x", "=", ",", "a=", `"`, "\xff", strings.Repeat("k", 65)} {
		for _, rev := range []int{-1, 0, mostRev + 1} {
			for _, kind := range []string{"", "\xff"} {
				checkToken(t, rev, kind, sel, kind)
			}
		}
	}
	s, e := Token(7, "x", " t == 1 ", "x/\u00e9\n")
	hold(t, "P21.1: Token", `{"after":"x/`+"\u00e9"+`\n","kind":"x","rev":7,"selector":"t=1"} 0`, s, e)
	rev, kind, sel, after, e := ReadToken(s)
	hold(t, "P21.1: ReadToken", "7 x t=1 x/\u00e9\n 0", rev, kind, sel, after, e)
}

// pickedSelector is one of the selectors.
func pickedSelector(i int) string { return someSelectors[i%len(someSelectors)] }

// A text that is no token has no page, of no choice: not where all that it does not say would be right, either.
func TestPageOfNoToken(t *testing.T) {
	for _, at := range []int{0, 5} {
		w := newWorld(t, at)
		w.put("x/a", marked("1"))
		for _, kind := range []string{"", "x"} {
			for _, s := range []string{"{}", " ", "null", "x/a", "\xff", `{"after":"","kind":"` + kind + `","rev":0,"selector":" "}`, `{"after":"","kind":"` + kind + `","rev":-1,"selector":""}`, `{"after":"","kind":"` + kind + `","rev":0,"selector":""} `} {
				if p := w.checkPage(kind, "", 1, s); p.E != api.ErrToken {
					t.Errorf("P21.2: a page of the token %q: %s", s, cut(p))
				}
			}
		}
	}
}

// What is no token: texts near one, and values near its.
func TestTextsThatAreNoTokens(t *testing.T) {
	const good = `{"after":"x/a","kind":"x","rev":12,"selector":"!t,t in (1,2)"}`
	if x, e := checkRead(t, good); e != api.OK || x != (token{12, "x", "!t,t in (1,2)", "x/a"}) {
		t.Fatalf("P21.1: %s, %d", cut(x), e)
	}
	read := 0
	look := func(s string) {
		if _, e := checkRead(t, s); e == api.OK {
			read++
		}
	}
	for i := range len(good) {
		look(good[:i])
		look(good[:i] + good[i+1:])
		for _, c := range []byte(" \t\n09-.e\"\\/{}[]:,abx=!()u\xc3\xff") {
			look(good[:i] + string([]byte{c}) + good[i:])
			look(good[:i] + string([]byte{c}) + good[i+1:])
		}
	}
	if read < 100 {
		t.Errorf("P21.1: only %d near tokens are tokens", read)
	}
	for _, s := range []string{
		"", " ", "null", "1", `""`, "[]", "{}", good + good, good + " ", " " + good, good + "\n", "\xff", "\x00", `"` + good + `"`, "[" + good + "]",
		`{"kind":"","rev":0,"selector":""}`, `{"after":"","rev":0,"selector":""}`, `{"after":"","kind":"","selector":""}`, `{"after":"","kind":"","rev":0}`, `{"after":"","kind":"","more":0,"rev":0,"selector":""}`,
		`{"kind":"","after":"","rev":0,"selector":""}`, `{"after":"","kind":"","kind":"","rev":0,"selector":""}`, `{"after":"", "kind":"","rev":0,"selector":""}`,
		`{"after":null,"kind":"","rev":0,"selector":""}`, `{"after":"","kind":1,"rev":0,"selector":""}`, `{"after":"","kind":"","rev":"0","selector":""}`, `{"after":"","kind":"","rev":null,"selector":""}`, `{"after":"","kind":"","rev":false,"selector":""}`, `{"after":"","kind":"","rev":0,"selector":[]}`, `{"after":{},"kind":"","rev":0,"selector":""}`,
		`{"after":"","kind":"","rev":-1,"selector":""}`, `{"after":"","kind":"","rev":-0,"selector":""}`, `{"after":"","kind":"","rev":00,"selector":""}`, `{"after":"","kind":"","rev":1.0,"selector":""}`, `{"after":"","kind":"","rev":1e1,"selector":""}`, `{"after":"","kind":"","rev":9007199254740992,"selector":""}`, `{"after":"","kind":"","rev":99999999999999999999,"selector":""}`,
		`{"after":"","kind":"","rev":0,"selector":" "}`, `{"after":"","kind":"","rev":0,"selector":"t==1"}`, `{"after":"","kind":"","rev":0,"selector":"="}`, `{"after":"","kind":"","rev":0,"selector":"t in (2,1)"}`, `{"after":"","kind":"","rev":0,"selector":"t in (1)"}`, `{"after":"","kind":"","rev":0,"selector":"\"t\""}`,
		`{"after":"\u0061","kind":"","rev":0,"selector":""}`, `{"after":"\/","kind":"","rev":0,"selector":""}`, `{"after":"\u000A","kind":"","rev":0,"selector":""}`, `{"after":"\u000a","kind":"","rev":0,"selector":""}`, `{"\u0061fter":"","kind":"","rev":0,"selector":""}`, "{\"after\":\"\n\",\"kind\":\"\",\"rev\":0,\"selector\":\"\"}", "{\"after\":\"\xff\",\"kind\":\"\",\"rev\":0,\"selector\":\"\"}",
		strings.Repeat("[", 100), strings.Repeat(`{"after":`, 100),
	} {
		if x, e := checkRead(t, s); e != api.ErrToken {
			t.Errorf("P21.1: ReadToken(%s) = %s, %d", cut(s), cut(x), e)
		}
	}
	for _, s := range []string{`{"after":"","kind":"","rev":0,"selector":""}`, `{"after":"","kind":"","rev":9007199254740991,"selector":""}`, `{"after":"\n","kind":"\u0000","rev":10,"selector":"\"\\n\""}`} {
		if x, e := checkRead(t, s); e != api.OK {
			t.Errorf("P21.1: ReadToken(%s) = %s, %d", cut(s), cut(x), e)
		}
	}
}

// Tokens as long as may be, and longer: by the key, by the kind, by the selector, whose canonical text can be longer than what was read.
func TestLongTokens(t *testing.T) {
	const around = len(`{"after":"","kind":"","rev":0,"selector":""}`)
	k := func(n int) string { return strings.Repeat("k", n) }
	for more := range 2 {
		want := api.OK
		if more > 0 {
			want = api.ErrToken
		}
		n := mostText - around + more
		sel := strings.Repeat("a,", n/2)
		if sel += "a"; n%2 == 0 {
			sel = "b" + sel[:n-1]
		}
		for i, x := range []token{{0, "", "", k(n)}, {0, k(n), "", ""}, {0, k(9), "", k(n - 9)}, {9999999999, "", "", k(n - 9)}, {0, "", "", strings.Repeat("\n", n/2) + k(n%2)}, {0, "", sel, ""}} {
			if s, e := checkToken(t, x.rev, x.kind, x.sel, x.after); e != want || e == api.OK && len(s) != mostText {
				t.Errorf("P21.1: the long token %d: %d bytes, %d, want %d", i, len(s), e, want)
			}
		}
		checkRead(t, `{"after":"","kind":"`+k(n)+`","rev":0,"selector":""}`)
	}
	checkToken(t, 0, "", "", k(mostText))
	checkToken(t, 0, k(2*mostText), "", k(2*mostText))
	grows := strings.Repeat("a in(b,c),", mostText/10) + "a"
	if text, is := canon(grows); !is || len(text) <= mostText || len(grows) > mostText {
		t.Fatalf("a selector of %d bytes: %d", len(grows), len(text))
	}
	checkToken(t, 0, "", grows, "")
	checkToken(t, 0, "", grows+"=", "")
	checkToken(t, 0, "", strings.Repeat(" ", mostText), "")
	checkToken(t, 0, "", strings.Repeat(" ", mostText+1), "")
	w := begun(t)
	w.put("x/c", rec(`{"a":"b"}`, 0))
	w.checkPage("x", grows, 1, "")
	w.checkPage("x", grows, 9, "")
	w.put("x/d", rec(`{"a":"c"}`, 0))
	if p := w.checkPage("x", grows, 2, ""); p.E != api.OK || len(p.L) != 2 {
		t.Errorf("P21.2: a page of all: %d", p.E)
	}
	if p := w.checkPage("x", grows, 1, ""); p.E != api.ErrToken {
		t.Errorf("P21.2: more are left, and there is no token: %d", p.E)
	}
	w.checkPage("x", grows, 1, `{"after":"","kind":"x","rev":3,"selector":""}`)
	w.checkPage("x", "", 1, `{"after":"`+k(200)+`","kind":"x","rev":3,"selector":""}`)
}

// A page that ends at a key that is no UTF-8, or of a kind that is none, has no token.
func TestNoToken(t *testing.T) {
	w := newWorld(t, 7)
	w.put("x/\xff", []byte("1"))
	w.put("x/a", []byte("2"))
	w.put("\xff/a", []byte("3"))
	w.put("\xff/b", []byte("4"))
	for i, c := range []struct {
		kind  string
		limit int
		n     int
		e     api.Errno
	}{{"x", 1, 1, 0}, {"x", 2, 2, 0}, {"", 1, 1, 0}, {"", 2, 0, api.ErrToken}, {"", 3, 0, api.ErrToken}, {"", 4, 4, 0}, {"\xff", 1, 0, api.ErrToken}, {"\xff", 2, 2, 0}} {
		if p := w.checkPage(c.kind, "", c.limit, ""); len(p.L) != c.n || p.E != c.e {
			t.Errorf("P21.2: page %d: %d objects, %d", i, len(p.L), p.E)
		}
	}
	for limit := 1; limit < 5; limit++ {
		w.checkEvents("\xff", 7, limit)
		w.checkEvents("", 7, limit)
	}
}

// Pages and events of all kinds and selectors, from each key and revision on.
func TestEachPage(t *testing.T) {
	w := newWorld(t, 3)
	for i, key := range someKeys {
		w.put(key, someData()[i%5])
	}
	for i, data := range someData() {
		w.put(fmt.Sprintf("x/c%02d", i), data)
	}
	w.remove("x/aa")
	w.put("y/c", []byte("others"))
	w.put("x/b", rec(`{"t":"2"}`, 0))
	w.put("x/aa", rec(`{"t":"2"}`, 0))
	kinds := []string{"", "x", "y", "xy", "x/a", "x/", "/", "a", "z", "\xff", "\x00"}
	for _, kind := range kinds {
		for _, sel := range someSelectors {
			for _, limit := range []int{1, 2, 3, 7, 15, 16, 17, 30, 500} {
				w.checkPage(kind, sel, limit, "")
				for _, rev := range []int{3, 5, 12, 39, w.rev() - 1, w.rev()} {
					for _, after := range append(someKeys, "", "x/c07", "x/c07\x00", "x0", "zz") {
						s, _ := Token(rev, kind, sel, after)
						w.checkPage(kind, sel, limit, s)
					}
				}
			}
		}
		for after := 2; after <= w.rev()+1; after++ {
			for _, limit := range []int{1, 2, 3, 500} {
				w.checkEvents(kind, after, limit)
			}
		}
	}
	w.st.Compact(9)
	for rev := 2; rev < 12; rev++ {
		w.checkEvents("x", rev, 9)
		s, _ := Token(rev, "x", "", "x/a")
		w.checkPage("x", "", 9, s)
	}
}

// What fits: sizes whose sums meet the bound, miss it, and begin with it; what does not fit ends the page, though something shorter stands behind it.
func TestFits(t *testing.T) {
	const m = mostBytes
	for i, sizes := range [][]int{
		{m}, {m, 0}, {m, 1}, {m, 0, 0, 1}, {0, m}, {0, m, 0, m}, {1, m}, {1, m, 1}, {m - 1, 1}, {m - 1, 1, 0}, {m - 1, 2}, {m - 1, 2, 1}, {m - 1, 1, 1}, {m / 2, m / 2}, {m / 2, m / 2, 1}, {m / 2, m/2 + 1, 1}, {m / 3, m / 3, m / 3, 2, 1}, {m, m, m}, {0, 0, 0}, {m - 2, 1, 1, 1, 1, m, 1},
	} {
		for _, kind := range []string{"", "x"} {
			w := newWorld(t, 0)
			for k, n := range sizes {
				if kind == "x" {
					w.put(fmt.Sprintf("y/%02d", k), make([]byte, 40000)) // of another kind: its bytes do not count
				}
				w.put(fmt.Sprintf("x/%02d", k), bytes.Repeat([]byte{byte(k)}, n))
			}
			for limit := 1; limit <= len(sizes)+1; limit++ {
				for s := ""; ; {
					p := w.checkPage(kind, "", limit, s)
					if s = p.Next; p.E != api.OK {
						t.Fatalf("P21.2: what fits, %d: %d", i, p.E)
					}
					if s == "" {
						break
					}
				}
				for after := 0; after < w.rev(); {
					x := w.checkEvents(kind, after, limit)
					if x.E != api.OK || x.On <= after {
						t.Fatalf("P21.3: what fits, %d: from %d to %d, %d", i, after, x.On, x.E)
					}
					after = x.On
				}
			}
		}
	}
}

// Of a removal the bytes that were there count.
func TestFitsRemoved(t *testing.T) {
	w := newWorld(t, 0)
	w.put("a", make([]byte, mostBytes-1))
	w.remove("a")
	w.put("b", []byte{1})
	w.put("b", nil)
	w.remove("b")
	for after := range 5 {
		w.checkEvents("", after, 9)
	}
	hold(t, "P21.3: on from a removal", "2 3 1", w.checkEvents("", 1, 1).On, w.checkEvents("", 1, 2).On, w.checkEvents("", 0, 9).On)
}

// In the choice are objects whose bytes count for what fits; the others, however long, do not.
func TestFitsChosen(t *testing.T) {
	w := newWorld(t, 0)
	for i := range 9 {
		w.put(fmt.Sprintf("x/%d", i), rec(`{"t":"2"}`, mostBytes))
		w.put(fmt.Sprintf("x/%da", i), rec(`{"t":"1"}`, mostBytes/4))
	}
	for limit := 1; limit < 7; limit++ {
		w.checkPage("x", "t=1", limit, "")
		w.checkPage("x", "t=2", limit, "")
		w.checkPage("", "t", limit, "")
	}
	if p := w.checkPage("x", "t=1", 9, ""); len(p.L) != 4 || p.Next == "" {
		t.Errorf("P21.2: %d of a quarter fit", len(p.L))
	}
}

// As many objects and events as may be on a page, and one more.
func TestMany(t *testing.T) {
	for _, n := range []int{15, 16, 17, 47, 48, 49, 500, 501, 1000, 4096} {
		w := newWorld(t, 0)
		for i := range n {
			w.put(fmt.Sprintf("x/%05d", i), []byte{byte(i)})
		}
		l, rev, next, e := Page(w.st, "x", "", 500, "")
		if len(l) != min(n, 500) || rev != n || (next == "") != (n <= 500) || e != api.OK {
			t.Errorf("P21.2: of %d: %d, %d, %s, %d", n, len(l), rev, next, e)
		}
		m, on, e := Events(w.st, "x", 0, 500)
		if len(m) != min(n, 500) || on != min(n, 500) || e != api.OK {
			t.Errorf("P21.3: of %d: %d, %d, %d", n, len(m), on, e)
		}
		all, s := 0, ""
		for {
			l, _, next, e := Page(w.st, "", "", 333, s)
			for _, x := range l {
				if x.Key != fmt.Sprintf("x/%05d", all) || x.Rev != all+1 || len(x.Data) != 1 || x.Data[0] != byte(all) || e != api.OK {
					t.Fatalf("P21.6: of %d the object %d is %s", n, all, cut(x))
				}
				all++
			}
			if s = next; s == "" {
				break
			}
		}
		if all != n {
			t.Errorf("P21.6: of %d objects %d are told", n, all)
		}
		if n == 4096 {
			w.remove("x/04095")
		}
		w.put("y/c", rec(`{"t":"1"}`, 0))
		if l, _, next, e := Page(w.st, "", "t=1", 1, ""); len(l) != 1 || next != "" || e != api.OK {
			t.Errorf("P21.2: the last one of %d: %d, %s, %d", n, len(l), next, e)
		}
		if m, on, e := Events(w.st, "y", 0, 1); len(m) != 1 || on != w.rev() || e != api.OK {
			t.Errorf("P21.3: the last one of %d: %d, %d, %d", n, len(m), on, e)
		}
	}
}

// The last revision there can be is one like the others.
func TestWorn(t *testing.T) {
	w := newWorld(t, mostRev-2)
	w.put("x/a", rec(`{"t":"1"}`, 0))
	w.put("x/b", rec(`{"t":"1"}`, 0))
	p := w.checkPage("x", "t", 1, "")
	w.checkPage("x", "t", 1, p.Next)
	for after := mostRev - 3; after <= mostRev+1; after++ {
		w.checkEvents("x", after, 9)
	}
	f, c := newBoth(t, "x", "t"), newPair(t)
	for _, rev := range []int{mostRev - 1, mostRev, mostRev + 1, 1<<63 - 1} {
		f.take(api.Event{Rev: rev, Kind: api.Created, Key: "x/a", Data: p.L[0].Data})
		c.take(api.Event{Rev: rev, Kind: api.Created, Key: fmt.Sprint(rev)})
		f.load(p.L, rev)
		c.load(p.L, rev)
	}
}

// A Store that no call made is as a new one.
func TestZeroStore(t *testing.T) {
	w := &world{t: t, st: new(store.Store)}
	w.checkPage("", "", 1, "")
	w.checkPage("", "", 1, `{"after":"","kind":"","rev":0,"selector":""}`)
	w.checkPage("", "", 1, `{"after":"","kind":"","rev":1,"selector":""}`)
	w.checkEvents("", 0, 1)
	w.checkEvents("", 1, 1)
}

// What a page or a row of events was made by has ended when the call answers, whether it told all or not.
func TestNoneLeft(t *testing.T) {
	w := newWorld(t, 0)
	for i := range 100 {
		w.put(fmt.Sprintf("x/%02d", i), rec(fmt.Sprintf(`{"t":"%d"}`, i%2), 3000))
	}
	s, _ := Token(50, "x", "", "x/2")
	calls := []func(){
		func() { Page(w.st, "x", "", 1, "") },
		func() { Page(w.st, "x", "t=1", 17, "") },
		func() { Page(w.st, "x", "", 500, s) },
		func() { Page(w.st, "x", "", 500, "") },
		func() { Page(w.st, "x", "t=5", 1, "") },
		func() { Page(w.st, "z", "", 1, "") },
		func() { Events(w.st, "x", 0, 1) },
		func() { Events(w.st, "", 0, 500) },
		func() { Events(w.st, "x", 90, 500) },
		func() { Events(w.st, "z", 0, 500) },
		func() { Events(w.st, "x", 100, 500) },
	}
	before := runtime.NumGoroutine()
	late := 0
	for range 100 {
		for _, call := range calls {
			call()
			if runtime.NumGoroutine() > before { // it may be on its last step, rarely
				late++
			}
		}
	}
	for range 5000 {
		if runtime.NumGoroutine() > before {
			time.Sleep(time.Millisecond)
		}
	}
	if n := runtime.NumGoroutine() - before; n > 0 || late > 300 {
		t.Errorf("Ways: of 1100 calls %d left a goroutine, %d for good", late, n)
	}
}

// Who tells a row is stopped when enough is there, however much it could tell; the first one is taken, however long it is.
func TestTaken(t *testing.T) {
	told := 0
	endless := func(hand func(int) bool) {
		for told = 0; hand(told + 1); told++ {
		}
	}
	for _, c := range []struct {
		size, limit int
		want        string
	}{{0, 3, "[1 2 3] true 4"}, {mostBytes / 2, 3, "[1 2] true 3"}, {mostBytes, 3, "[1] true 2"}, {mostBytes + 1, 3, "[1] true 2"}, {mostBytes / 2, 1, "[1] true 2"}} {
		l, more := taken(endless, func(int) int { return c.size }, c.limit)
		hold(t, "P21.2, Ways: what fits of an endless row, and how many were handed over", c.want, l, more, told)
	}
	for n := range 5 {
		l, more := taken(func(hand func(int) bool) {
			for i := 0; i < n && hand(i); i++ {
			}
		}, func(int) int { return 3 * mostBytes }, 3)
		hold(t, "P21.2: what fits of a short row", fmt.Sprint([]int{0}[:min(n, 1)], n > 1), l, more)
	}
}

// Behind a page the store can be written at once: nothing looks at it any more.
func TestWriteBehindPage(t *testing.T) {
	w := newWorld(t, 0)
	for i := range 3000 {
		w.put(fmt.Sprintf("x/%04d", i), []byte("some"))
	}
	for i := range 300 {
		Page(w.st, "x", "", 15, "")
		w.put("y/c", []byte{byte(i)})
		w.remove("y/c")
		Events(w.st, "x", 0, 1+i%9)
		w.st.Compact(i)
	}
}

func TestNil(t *testing.T) {
	var f *Filter
	var c *Cache
	l, e := f.Take(api.Event{Rev: 1, Kind: api.Created})
	hold(t, "P21.4: a nil filter", "1 1 [] 1", f.Load(nil, -1), f.Load(nil, 0), l, e)
	x, is := c.Get("a")
	hold(t, "P21.5: a nil cache", "1 1 1 1 0 { 0 []} false []", c.Load(nil, -1), c.Load(nil, 0), c.Take(api.Event{}), c.Take(api.Event{Rev: 1, Kind: api.Created}), c.Rev(), x, is, c.List(""))
	for _, sel := range []string{"=", ",", "a b", "\xff", strings.Repeat(" ", mostText+1)} {
		for _, kind := range []string{"", "x", "\xff"} {
			f, e := NewFilter(kind, sel)
			hold(t, "P21.4: NewFilter", "true 200", f == nil, e)
		}
	}
}

// A Filter or a Cache that no call made is no reason to panic; it is as one of all objects.
func TestZero(t *testing.T) {
	f := &both{t: t, f: new(Filter)}
	c := &pair{t: t, c: new(Cache)}
	c.check()
	for i, kind := range []int{api.Removed, api.Created, api.Swapped, api.Removed, api.Removed, api.Created} {
		x := api.Event{Rev: i + 1, Kind: kind, Key: "x/a", Data: []byte{byte(i)}}
		f.take(x)
		c.take(x)
	}
	f, c = &both{t: t, f: new(Filter)}, &pair{t: t, c: new(Cache)}
	f.load([]api.Item{{Key: "x/a", Rev: 1}}, 1)
	c.load([]api.Item{{Key: "x/a", Rev: 1}}, 1)
	c.load(nil, 0)
	c.take(api.Event{Rev: 1, Kind: api.Created, Key: "x/a"})
}
