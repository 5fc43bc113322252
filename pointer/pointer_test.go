package pointer

import (
	"math/rand"
	"slices"
	"strings"
	"testing"

	"freehold/api"
)

func checkParse(t *testing.T, p string, want []string, e api.Errno) {
	t.Helper()
	if l, f := Parse(p); f != e || !slices.Equal(l, want) {
		t.Errorf("P4.1: Parse(%q) = %q, %d, want %q, %d", p, l, f, want, e)
	}
}

func checkPrint(t *testing.T, l []string, want string, e api.Errno) {
	t.Helper()
	if p, f := Print(l); f != e || p != want {
		t.Errorf("P4.1: Print(%q) = %q, %d, want %q, %d", l, p, f, want, e)
	}
}

func TestTextsOfPointers(t *testing.T) {
	for _, c := range []struct {
		p string
		l []string
	}{
		{"", nil}, {"/", []string{""}}, {"//", []string{"", ""}}, {"/a~1b/~0", []string{"a/b", "~"}},
		{"/a", []string{"a"}}, {"/a/b", []string{"a", "b"}}, {"/a/", []string{"a", ""}}, {"//a", []string{"", "a"}},
		{"/~01", []string{"~1"}}, {"/~00", []string{"~0"}}, {"/~0~1", []string{"~/"}}, {"/~1~0", []string{"/~"}}, {"/~1", []string{"/"}}, {"/~10", []string{"/0"}}, {"/~0~0~1~1", []string{"~~//"}},
		{"/ ", []string{" "}}, {"/%20", []string{"%20"}}, {"/\\", []string{"\\"}}, {"/\"", []string{"\""}}, {"/\x00", []string{"\x00"}}, {"/\n", []string{"\n"}},
		{"/-/0/01", []string{"-", "0", "01"}}, {"/\u00e9/\U0001f600", []string{"\u00e9", "\U0001f600"}}, {"/\ufffd", []string{"\ufffd"}},
	} {
		checkParse(t, c.p, c.l, api.OK)
		checkPrint(t, c.l, c.p, api.OK)
	}
	checkPrint(t, []string{}, "", api.OK)
}

func TestTextsThatAreNoPointers(t *testing.T) {
	for _, p := range []string{
		"a", "/~", "/~2", "/\xff", // as the examples have it
		"~0", "~1", "a/b", " /a", "-", "0", "\xff", "#/a", "\u00e9/",
		"/a~", "/a/~", "/~/a", "/a/~/b", "/~~", "/~~0", "/~0~", "/~a", "/~-", "/~/", "/~\u00e9", "/~9", "/~ 0", "/~\x00",
		"/\x80", "/\xc3", "/\xc3/\xa9", "/a/\xed\xa0\x80", "/\xc0\x80", "/\xf4\x90\x80\x80", "/a\xe2\x82", "/ok/ok/\xfe",
	} {
		checkParse(t, p, nil, api.ErrPointer)
	}
	for _, l := range [][]string{{"\xff"}, {"a", "\xff"}, {"\xff", "a"}, {"a", "\xc3", "b"}, {"\xed\xa0\x80"}, {"\xc3", "\xa9"}} {
		checkPrint(t, l, "", api.ErrPointer)
	}
}

// Every text of up to six parts.
func TestEveryShortPointer(t *testing.T) {
	parts := []string{"/", "~", "0", "1", "a", "\u00e9", "\xc3"}
	texts := []string{""}
	for range 6 {
		for _, p := range texts[:len(texts):len(texts)] {
			for _, s := range parts {
				texts = append(texts, p+s)
			}
		}
		slices.Sort(texts)
		texts = slices.Compact(texts)
	}
	good := 0
	for _, p := range texts {
		want, e := wantParse(p)
		checkParse(t, p, want, e)
		if e == api.OK {
			good++
			checkPrint(t, want, p, api.OK)
		}
		one, e := wantPrint([]string{p})
		checkPrint(t, []string{p}, one, e)
		if e == api.OK {
			checkParse(t, one, []string{p}, api.OK)
		}
		if t.Failed() {
			return
		}
	}
	if good < 1000 {
		t.Errorf("only %d pointers among %d texts", good, len(texts))
	}
}

func TestThereAndBack(t *testing.T) {
	r := rand.New(rand.NewSource(41))
	for range 20000 {
		var l []string
		for range r.Intn(6) {
			l = append(l, pickToken(r)+pickToken(r))
		}
		p, e := Print(l)
		if e != api.OK {
			t.Fatalf("P4.1: Print(%q): %d", l, e)
		}
		if back, e := Parse(p); e != api.OK || !slices.Equal(back, l) {
			t.Fatalf("P4.1: Parse of Print(%q) = %q, %d", l, back, e)
		}
	}
}

func TestLongPointers(t *testing.T) {
	l, e := Parse(strings.Repeat("/", 300000))
	if e != api.OK || len(l) != 300000 || l[0] != "" || l[299999] != "" {
		t.Errorf("P4.1: of 300000 slashes: %d tokens, %d", len(l), e)
	}
	p, e := Print(l)
	if e != api.OK || p != strings.Repeat("/", 300000) {
		t.Errorf("P4.1: of 300000 empty tokens: %d bytes, %d", len(p), e)
	}
	checkParse(t, "/"+strings.Repeat("~0~1", 100000), []string{strings.Repeat("~/", 100000)}, api.OK)
	checkPrint(t, []string{strings.Repeat("~/", 100000)}, "/"+strings.Repeat("~0~1", 100000), api.OK)
	checkParse(t, strings.Repeat("/a", 100000)+"/~", nil, api.ErrPointer)
}

func TestTokensAreNewMemory(t *testing.T) {
	l := append(make([]string, 0, 4), "a", "b")
	room := l[:4]
	room[2] = "spare"
	Print(l)
	Parse("/x/y")
	if !slices.Equal(room, []string{"a", "b", "spare", ""}) {
		t.Errorf("P4.8: Print changed its tokens: %q", room)
	}
	a, _ := Parse("/a/b")
	b, _ := Parse("/a/b")
	checkApart(t, "Parse twice", append(roomOf(a), roomOf(b)...))
	a[0], a = "z", append(a, "more")
	if c, _ := Parse("/a/b"); !slices.Equal(b, []string{"a", "b"}) || !slices.Equal(c, b) || a[2] != "more" {
		t.Errorf("P4.8: what was written into an answer is seen in %q, %q", b, c)
	}
}
