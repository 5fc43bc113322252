package quote

import (
	"strings"
	"testing"

	"freehold/api"
)

// bytesOf is the string of some bytes, as the chapter tells them.
func bytesOf(l ...byte) string { return string(l) }

// eachString goes through all strings of some parts, up to most of them.
func eachString(parts []string, most int, f func(s string)) {
	level := []string{""}
	f("")
	for range most {
		var next []string
		for _, s := range level {
			for _, p := range parts {
				f(s + p)
				next = append(next, s+p)
			}
		}
		level = next
	}
}

func checkRefused(t *testing.T, promise, s string) {
	t.Helper()
	if Valid(s) {
		t.Errorf("P1.1: Valid(% x) = true", s)
	}
	if q, e := Quote(s); q != "" || e != api.ErrUTF {
		t.Errorf("%s: Quote(% x) = %q, %d; want none, ErrUTF", promise, s, q, e)
	}
	if n, e := Size(s); n != 0 || e != api.ErrUTF {
		t.Errorf("%s: Size(% x) = %d, %d; want 0, ErrUTF", promise, s, n, e)
	}
}

func checkQuoted(t *testing.T, s, want string) {
	t.Helper()
	if !Valid(s) {
		t.Errorf("P1.1: Valid(%q) = false", s)
	}
	if q, e := Quote(s); q != want || e != api.OK {
		t.Errorf("P1.2: Quote(%q) = %q, %d; want %q, OK", s, q, e, want)
	}
	if n, e := Size(s); n != len(want) || e != api.OK {
		t.Errorf("P1.2: Size(%q) = %d, %d; want %d, OK", s, n, e, len(want))
	}
}

func TestValidExamples(t *testing.T) {
	for _, s := range []string{"", "a", bytesOf(0), bytesOf(127), bytesOf(195, 169), bytesOf(240, 159, 152, 128), "\ufffd", "\U0010ffff", "\ud7ff\ue000"} {
		if !Valid(s) {
			t.Errorf("P1.1: Valid(% x) = false", s)
		}
	}
	for _, s := range []string{bytesOf(195), bytesOf(128), bytesOf(192, 128), bytesOf(193, 191), bytesOf(224, 159, 191), bytesOf(237, 160, 128), bytesOf(237, 191, 191), bytesOf(240, 143, 191, 191), bytesOf(244, 144, 128, 128), bytesOf(245, 128, 128, 128), bytesOf(248, 136, 128, 128, 128), bytesOf(254), bytesOf(255), "a" + bytesOf(226, 130), bytesOf(226, 130) + "a"} {
		checkRefused(t, "P1.2", s)
	}
}

// Bytes at every edge of the table of sequences, in all strings of up to four of them.
func TestValidAtTheEdges(t *testing.T) {
	var edges []string
	for _, c := range []byte{0, 34, 127, 128, 143, 144, 159, 160, 191, 192, 193, 194, 223, 224, 225, 236, 237, 238, 239, 240, 241, 243, 244, 245, 255} {
		edges = append(edges, bytesOf(c))
	}
	eachString(edges, 4, func(s string) {
		if got, want := Valid(s), isTextString(s); got != want {
			t.Errorf("P1.1: Valid(% x) = %v", s, got)
		}
	})
}

func TestEveryShortStringOfBytes(t *testing.T) {
	var all []string
	for c := range 256 {
		all = append(all, bytesOf(byte(c)))
	}
	eachString(all, 2, func(s string) {
		if isTextString(s) {
			checkQuoted(t, s, referenceQuote(s))
		} else {
			checkRefused(t, "P1.2", s)
		}
	})
}

func TestQuoteExamples(t *testing.T) {
	checkQuoted(t, "", `""`)
	checkQuoted(t, `a"b\`, `"a\"b\\"`)
	all := bytesOf(8, 9, 10, 12, 13, 0, 31, 127, 47)
	checkQuoted(t, all, `"\b\t\n\f\r\u0000\u001f`+bytesOf(127)+`/"`)
	if n, _ := Size(all); n != 26 {
		t.Errorf("P1.2: Size = %d, want 26", n)
	}
	checkQuoted(t, bytesOf(11, 14, 16, 26), `"\u000b\u000e\u0010\u001a"`)
	checkQuoted(t, "a/b<c>&\u2028\ufffd\U0001f600", "\"a/b<c>&\u2028\ufffd\U0001f600\"")
	long := strings.Repeat("\x01\n\u00e9", 100000)
	checkQuoted(t, long, `"`+strings.Repeat(`\u0001\n`+"\u00e9", 100000)+`"`)
	for _, s := range []string{bytesOf(128), bytesOf(192, 128), bytesOf(237, 160, 128), bytesOf(244, 144, 128, 128), long + bytesOf(195)} {
		checkRefused(t, "P1.2", s)
	}
}

type read struct {
	text string
	at   int
	s    string
	next int
	e    api.Errno
}

func checkRead(t *testing.T, c read) {
	t.Helper()
	if s, next, e := Unquote(c.text, c.at); s != c.s || next != c.next || e != c.e {
		t.Errorf("P1.3: Unquote(%q, %d) = %q, %d, %d; want %q, %d, %d", c.text, c.at, s, next, e, c.s, c.next, c.e)
	}
}

func TestUnquoteExamples(t *testing.T) {
	for _, c := range []read{
		{`"a"`, 0, "a", 3, api.OK},
		{`x"a"`, 1, "a", 4, api.OK},
		{`x"a"`, 0, "", 0, api.ErrQuote},
		{`x"a"`, 4, "", 4, api.ErrQuote},
		{`x"a"`, -1, "", 0, api.ErrArg},
		{`x"a"`, 5, "", 0, api.ErrArg},
		{`"a`, 0, "", 2, api.ErrQuote},
		{"\"\n", 0, "", 1, api.ErrQuote},
		{`"\/A\u00e9"`, 0, "/A\u00e9", 11, api.OK},
		{`"\x"`, 0, "", 2, api.ErrEscape},
		{`"\u12g4"`, 0, "", 5, api.ErrEscape},
		{`"\ud83d\ude00"`, 0, "\U0001f600", 14, api.OK},
		{`"\ud83d"`, 0, "", 7, api.ErrEscape},
		{`"\ud83dx"`, 0, "", 7, api.ErrEscape},
		{`"\ud83d\n"`, 0, "", 8, api.ErrEscape},
		{`"\ud83d\u0041"`, 0, "", 9, api.ErrEscape},
		{`"\ud83d\ud83d"`, 0, "", 10, api.ErrEscape},
		{`"\ude00"`, 0, "", 4, api.ErrEscape},
		{`"\uD83D\uDE00"`, 0, "\U0001f600", 14, api.OK},
		{bytesOf(34, 224, 128, 34), 0, "", 2, api.ErrUTF},
		{bytesOf(34, 195, 34), 0, "", 2, api.ErrUTF},
		{bytesOf(34, 240, 159), 0, "", 3, api.ErrUTF},
		{bytesOf(34, 92), 0, "", 2, api.ErrEscape},
	} {
		checkRead(t, c)
	}
}

func TestUnquoteAtTheEdges(t *testing.T) {
	const most, least = int(^uint(0) >> 1), -int(^uint(0)>>1) - 1
	for _, c := range []read{
		{"", 0, "", 0, api.ErrQuote},
		{"", 1, "", 0, api.ErrArg},
		{`""`, most, "", 0, api.ErrArg},
		{`""`, least, "", 0, api.ErrArg},
		{`""`, 0, "", 2, api.OK},
		{`"`, 0, "", 1, api.ErrQuote},
		{"\"\x1f\"", 0, "", 1, api.ErrQuote},
		{"\"a\x00\"", 0, "", 2, api.ErrQuote},
		{"\" \x7f\"", 0, " \x7f", 4, api.OK},
		{`"\u0000"`, 0, "\x00", 8, api.OK},
		{`"\uD7fF\uE000\uffff\uFFFD"`, 0, "\ud7ff\ue000\uffff\ufffd", 26, api.OK},
		{"\"\ufffd\"", 0, "\ufffd", 5, api.OK},
		{`"\ud800\udc00\uDBFF\uDFFF"`, 0, "\U00010000\U0010ffff", 26, api.OK},
		{`"\U0041"`, 0, "", 2, api.ErrEscape},
		{`"\u` + bytesOf(195, 169) + `"`, 0, "", 3, api.ErrEscape},
		{"\"\\\xc3\xa9\"", 0, "", 2, api.ErrEscape},
		{"\"\\\n\"", 0, "", 2, api.ErrEscape},
		{`"\ud83d\ud`, 0, "", 10, api.ErrEscape},
		{`"\ud83d\u`, 0, "", 9, api.ErrEscape},
		{`"\xd"` + bytesOf(255), 0, "", 2, api.ErrEscape},
		{`"a"` + bytesOf(255, 10) + `\q`, 0, "a", 3, api.OK},
		{bytesOf(255) + `\q"a"`, 3, "a", 6, api.OK},
	} {
		checkRead(t, c)
	}
}

var seeds = []string{
	`"a"`, `x"a"b"c"`, `"\"\\\/\b\f\n\r\t"`, `"\u12aB\u00e9"`, `"\ud83d\ude00"`, `"\uDBFF\uDFFFz"`, `"\ud7ff\ud800\udc00"`,
	"\"\u00e9\"", "\"\u20ac\ud7ff\"", "\"\u0800\ufffd\"", "\"\U00010000\"", "\"\U0010ffff\"", "\"\U0001f600a\"",
}

func checkAgainstReference(t *testing.T, text string, at int) {
	t.Helper()
	s, next, e := referenceUnquote(text, at)
	checkRead(t, read{text, at, s, next, e})
}

// Every seed, cut at every place and with every byte at every place, read from every place.
func TestUnquoteOfWhatIsNearlyRight(t *testing.T) {
	for _, seed := range seeds {
		for at := -1; at <= len(seed)+1; at++ {
			for cut := 0; cut <= len(seed); cut++ {
				checkAgainstReference(t, seed[:cut], at)
			}
		}
		for at := range len(seed) {
			for c := range 256 {
				for from := range 2 {
					checkAgainstReference(t, seed[:at]+bytesOf(byte(c))+seed[at+1:], from)
				}
			}
		}
	}
}

func TestUnquoteOfEveryRowOfParts(t *testing.T) {
	parts := []string{`"`, `\`, `u`, `d`, `D8`, `8`, `dc`, `C`, `00`, `n`, `/`, "\n", "\xc3", "\xa9", "\xed", "\xf0\x9f"}
	eachString(parts, 4, func(s string) { checkAgainstReference(t, `"`+s+`"`, 0) })
	eachString([]string{`\ud83d`, `\ude00`, `\u0041`, `\`, `u`, `"`, "é"}, 5, func(s string) { checkAgainstReference(t, `"`+s, 0) })
}

func TestEveryNumberOfAnEscape(t *testing.T) {
	const lower, upper = "0123456789abcdef", "0123456789ABCDEF"
	for v := range 65536 {
		for _, digits := range []string{lower, upper} {
			e := `\u` + string([]byte{digits[v>>12], digits[v>>8&15], digits[v>>4&15], digits[v&15]})
			checkAgainstReference(t, `"`+e+`"`, 0)
			checkAgainstReference(t, `"\ud83d`+e+`"`, 0)
			checkAgainstReference(t, `"`+e+`\udfff"`, 0)
		}
	}
}

func checkThereAndBack(t *testing.T, s string) {
	t.Helper()
	q, e := Quote(s)
	if e != api.OK {
		t.Fatalf("P1.4: Quote(%q): %d", s, e)
	}
	for _, c := range []struct{ ahead, behind string }{{"", ""}, {`"`, `"`}, {"x\xff\\", "\xff\n\\u"}} {
		back, next, e := Unquote(c.ahead+q+c.behind, len(c.ahead))
		if back != s || next != len(c.ahead)+len(q) || e != api.OK {
			t.Errorf("P1.4: Unquote of Quote(%q) = %q, %d, %d", s, back, next, e)
		}
	}
}

func TestThereAndBack(t *testing.T) {
	eachScalar(func(v int) {
		s := sequenceOf(v)
		checkThereAndBack(t, s)
		if want := referenceQuote(s); v < 128 || v%97 == 0 {
			checkQuoted(t, s, want)
		}
	})
	eachString([]string{"", "\"", "\\", "/", "u", "\n", "\x00", "\x7f", "é", "\u2028", "😀"}, 4, func(s string) { checkThereAndBack(t, s) })
	checkThereAndBack(t, strings.Repeat("a\"\\\x01é😀", 50000))
}

func TestWhatIsReadIsNoLongerQuoted(t *testing.T) {
	for _, c := range []struct{ text, s, quoted string }{
		{`"\u0041\/\u0009"`, "A/\t", `"A/\t"`},
		{`"\u0001"`, "\x01", `"\u0001"`},
		{`"\u0022\u005C\u00e9"`, "\"\\\u00e9", "\"\\\"\\\\\u00e9\""},
		{`"\ud83d\ude00\u20ac"`, "\U0001f600\u20ac", "\"\U0001f600\u20ac\""},
	} {
		s, next, e := Unquote(c.text, 0)
		q, f := Quote(s)
		if s != c.s || q != c.quoted || e != api.OK || f != api.OK || len(q) > next {
			t.Errorf("P1.4: of %q: %q, %d, %d; quoted %q, %d", c.text, s, next, e, q, f)
		}
	}
	eachString([]string{`\n`, `\/`, `\u001F`, `\u000a`, `\u2028`, `\uD83D\uDE00`, "a", "\u00e9", `\\`, `\"`}, 4, func(s string) {
		text := `"` + s + `"`
		got, next, e := Unquote(text, 0)
		size, f := Size(got)
		if e != api.OK || next != len(text) || !isTextString(got) || f != api.OK || size > next {
			t.Errorf("P1.4: of %q: %q, %d, %d; quoted in %d, %d", text, got, next, e, size, f)
		}
	})
}

func TestUnlikeStringsHaveUnlikeTexts(t *testing.T) {
	stringOf := map[string]string{}
	eachString([]string{"\"", "\\", "u", "n", "0", "\n", "\x00", "\x1f", "\x7f", "é", "\u0080", "😀"}, 3, func(s string) {
		q, e := Quote(s)
		if other, there := stringOf[q]; there || e != api.OK {
			t.Errorf("P1.5: %q and %q have the text %q (%d)", s, other, q, e)
		}
		stringOf[q] = s
	})
	for q, s := range stringOf {
		for cut := range len(q) {
			if other, there := stringOf[q[:cut]]; there {
				t.Errorf("P1.5: the text of %q begins that of %q", other, s)
			}
		}
	}
}
