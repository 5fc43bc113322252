package json

import (
	stdjson "encoding/json"
	"fmt"
	"math"
	"math/rand"
	"strings"
	"testing"

	"freehold/api"
)

// short is a text as a message tells it.
func short(s string) string {
	if len(s) > 80 {
		return fmt.Sprintf("%q.. (%d bytes)", s[:80], len(s))
	}
	return fmt.Sprintf("%q", s)
}

func checkRead(t *testing.T, s string, depth int, want api.Value) {
	t.Helper()
	v, at, e := Parse([]byte(s), depth)
	if e != api.OK || at != -1 || !same(v, want) {
		t.Errorf("P3.1: Parse(%s, %d) = %s, %d, %d, want %s, -1, OK", short(s), depth, short(wantPrint(v)), at, e, short(wantPrint(want)))
	}
}

func checkFault(t *testing.T, s string, depth, at int, e api.Errno) {
	t.Helper()
	v, p, f := Parse([]byte(s), depth)
	if f != e || p != at || !same(v, null) {
		t.Errorf("P3.1: Parse(%s, %d) = %s, %d, %d, want null, %d, %d", short(s), depth, short(wantPrint(v)), p, f, at, e)
	}
}

// checkWords holds Parse against the reading of the words, and answers what was wrong.
func checkWords(t *testing.T, s string, depth int) api.Errno {
	t.Helper()
	v, at, e := wantParse(s, depth)
	if e == api.OK {
		checkRead(t, s, depth, v)
	} else {
		checkFault(t, s, depth, at, e)
	}
	return e
}

func TestParseReads(t *testing.T) {
	for s, want := range map[string]api.Value{
		"null": null, "true": boolean(true), "false": boolean(false), "0": num(0), "-0": num(0), "7": num(7), "-12": num(-12), "1000": num(1000),
		"9223372036854775807": num(math.MaxInt64), "-9223372036854775808": num(math.MinInt64), "-9223372036854775807": num(math.MinInt64 + 1),
		`""`: text(""), `"a"`: text("a"), `"\u00e9\n\/"`: text("\u00e9\n/"), `"null"`: text("null"), `"\ud83d\ude00"`: text("\U0001f600"), `" [1,2] "`: text(" [1,2] "),
		"[]": list(), "[ \t\n\r]": list(), "[1]": list(num(1)), "[ 1 , 2 ]": list(num(1), num(2)), "[null,null]": list(null, null), "[[],[[]]]": list(list(), list(list())),
		"{}": object(), "{ \t\n\r}": object(), `{"a":null}`: object(at("a", null)), `{ "a" : 1 , "b" : 2 }`: object(at("a", num(1)), at("b", num(2))), `{"":{"":{}}}`: object(at("", object(at("", object())))),
		"\t1\n": num(1), "\r\n true \r\n": boolean(true), " \n\r\t null \n\r\t ": null,
	} {
		checkRead(t, s, api.MaxDepth, want)
		checkWords(t, s, api.MaxDepth)
	}
}

func TestParseExamples(t *testing.T) {
	checkRead(t, ` {"b":[1,-0,"x"],"a":{}} `, 32, object(at("a", object()), at("b", list(num(1), num(0), text("x")))))
	checkFault(t, "", 32, 0, api.ErrTextEnd)
	for _, s := range []string{"01", "1.5", "1e3", "-", "+1", "9223372036854775808"} {
		checkFault(t, s, 32, 0, api.ErrTextNum)
	}
	checkFault(t, "[1,]", 32, 3, api.ErrTextByte)
	checkFault(t, "nul", 32, 3, api.ErrTextEnd)
	checkFault(t, "nulx", 32, 3, api.ErrTextByte)
	checkFault(t, "1 2", 32, 2, api.ErrTextMore)
	checkFault(t, `{"a":1,"\u0061":2}`, 32, 7, api.ErrTextKey)
	checkRead(t, brackets(33, ""), 32, lists(32, list()))
	checkFault(t, brackets(34, ""), 32, 33, api.ErrDeep)
	checkFault(t, strings.Repeat("[", 33)+"1", 32, 33, api.ErrDeep)
}

func TestParseMembersRise(t *testing.T) {
	want := object(at("", num(0)), at("A", num(1)), at("a", num(2)), at("a\x00", num(3)), at("ab", num(4)), at("b", num(5)), at("\u00e9", num(6)), at("\uffff", num(7)), at("\U00010000", num(8)))
	r := rand.New(rand.NewSource(31))
	for range 50 {
		checkRead(t, loosely(r, want), 1, want)
	}
}

func TestParseDepthThatIsNone(t *testing.T) {
	for _, depth := range []int{-1, 41, math.MinInt, math.MaxInt} {
		for _, s := range []string{"1", "", "x", strings.Repeat(" ", 1048577)} {
			checkFault(t, s, depth, 0, api.ErrArg)
		}
	}
	for depth := range 41 {
		checkRead(t, "1", depth, num(1))
	}
}

func TestParseLongTexts(t *testing.T) {
	for _, s := range []string{strings.Repeat(" ", 1048577), "1" + strings.Repeat(" ", 1048576), "x" + strings.Repeat(" ", 1048576), `"` + strings.Repeat("a", 1048575) + `"`, strings.Repeat("[", 1048577)} {
		checkFault(t, s, 32, 0, api.ErrTextLong)
	}
	checkRead(t, "1"+strings.Repeat(" ", 1048575), 32, num(1))
	checkRead(t, strings.Repeat("\n", 1048575)+"1", 32, num(1))
	checkRead(t, `"`+strings.Repeat("a", 1048574)+`"`, 32, text(strings.Repeat("a", 1048574)))
	checkFault(t, strings.Repeat(" ", 1048576), 32, 1048576, api.ErrTextEnd)
	checkFault(t, strings.Repeat(" ", 1048575)+"x", 32, 1048575, api.ErrTextByte)
	checkFault(t, strings.Repeat("9", 1048576), 32, 0, api.ErrTextNum)
	checkFault(t, `"`+strings.Repeat("a", 1048575), 32, 1048576, api.ErrQuote)
}

func TestParseEndsTooEarly(t *testing.T) {
	for _, s := range []string{
		"", " ", "\n\t\r ", "n", "nul", "t", "tru", "f", "fals", " t",
		"[", "[ ", "[1", "[1 ", "[1,", "[1, ", "[[]", "[nul", "[[", "[{", "[\"a\"",
		"{", "{ ", `{"a"`, `{"a" `, `{"a":`, `{"a": `, `{"a":1`, `{"a":1 `, `{"a":1,`, `{"a":1, `, `{"a":{}`, `{"a":f`, `{"a":[`,
	} {
		checkFault(t, s, 32, len(s), api.ErrTextEnd)
	}
}

// Every byte, where a value, a key, a colon, or something behind a value must stand.
func TestParseByteThatCantStand(t *testing.T) {
	const value = "0123456789-+.eEntf\"[{"
	const blanks = " \t\n\r"
	for _, x := range []struct{ head, may, blanks string }{
		{"", value, blanks}, {" \n", value, blanks}, {"[", value + "]", blanks}, {"[1,", value, blanks}, {"[ 1 , ", value, blanks}, {`{"a":`, value, blanks}, {`{"a" : `, value, blanks}, {`{"a":1,"b":`, value, blanks}, {"[[],", value, blanks},
		{"{", "\"}", blanks}, {"{ ", "\"}", blanks}, {`{"a":1,`, "\"", blanks}, {`{"a":1, `, "\"", blanks}, {"[{", "\"}", blanks},
		{`{"a"`, ":", blanks}, {`{"a" `, ":", blanks}, {"[true", ",]", blanks}, {"[true ", ",]", blanks}, {`["a"`, ",]", blanks}, {"[[]", ",]", blanks}, {`{"a":null`, ",}", blanks}, {`{"a":[] `, ",}", blanks}, {`[{"a":""`, ",}", blanks},
		{"n", "u", ""}, {"nu", "l", ""}, {"nul", "l", ""}, {"[t", "r", ""}, {"tr", "u", ""}, {"tru", "e", ""}, {"f", "a", ""}, {"fa", "l", ""}, {"fal", "s", ""}, {`{"a":fals`, "e", ""},
	} {
		for c := range 256 {
			s := x.head + string([]byte{byte(c)})
			_, _, e := Parse([]byte(s), 32)
			if stands := strings.IndexByte(x.may+x.blanks, byte(c)) >= 0; stands == (e == api.ErrTextByte) {
				t.Errorf("P3.1: the byte %d behind %q: %d", c, x.head, e)
			} else if !stands {
				checkFault(t, s, 32, len(x.head), api.ErrTextByte)
				checkFault(t, s+"1]", 32, len(x.head), api.ErrTextByte)
			}
		}
	}
	for s, at := range map[string]int{
		"[1,]": 3, "[1 2]": 3, "[,1]": 1, "[1,,2]": 3, "[1:2]": 2, "[1}": 2, "{]": 1, "{1:2}": 1, "{,}": 1, `{"a" 1}`: 5, `{"a",1}`: 4, `{"a":1,}`: 7, `{"a":1]`: 6, `{"a":}`: 5, `{"a"::1}`: 5,
		"{null:1}": 1, "True": 0, "NULL": 0, "nulx": 3, "n ull": 1, "[nul]": 4, "[truefalse]": 5, "[1true]": 2, "[truee]": 5, "]": 0, "}": 0, ",": 0, ":": 0, "'a'": 0, "\ufeff1": 0, "/**/1": 0, "[\v1]": 1, "[1\f]": 2, "\x001": 0, "\u00a01": 0,
	} {
		checkFault(t, s, 32, at, api.ErrTextByte)
	}
}

func TestParseNumbers(t *testing.T) {
	for _, s := range []string{
		"-", "+", ".", "e", "E", "--1", "-+1", "+-1", "+1", "00", "01", "-00", "-01", "1-", "1-1", "1.", ".5", "1.0", "0.0", "-1.5", "1e3", "1E3", "1e+3", "0e0", "1e", "12e", "+0", "-e",
		"9223372036854775808", "-9223372036854775809", "18446744073709551615", "18446744073709551616", "99999999999999999999", "-99999999999999999999", "09223372036854775807", "10000000000000000000000000000000000000000",
	} {
		checkFault(t, s, 32, 0, api.ErrTextNum)
		checkFault(t, " "+s+" x", 32, 1, api.ErrTextNum)
		checkFault(t, "["+s, 32, 1, api.ErrTextNum)
		checkFault(t, "[0,"+s+"]", 32, 3, api.ErrTextNum)
		checkFault(t, `{"a":`+s+"}", 32, 5, api.ErrTextNum)
	}
	checkFault(t, "1_000", 32, 1, api.ErrTextMore)
	checkFault(t, "0x10", 32, 1, api.ErrTextMore)
	for _, d := range []string{"\u0661", "\uff11"} {
		checkFault(t, d, 32, 0, api.ErrTextByte) // other scripts' digits are none
	}
}

// Every row of up to five bytes of a number.
func TestParseNumbersByTheWords(t *testing.T) {
	rows, seen := []string{""}, map[api.Errno]int{}
	for range 5 {
		for _, s := range rows[len(rows)-pow(9, len(rows[len(rows)-1])):] {
			for _, c := range "0129-+.eE" {
				rows = append(rows, s+string(c))
			}
		}
	}
	for _, s := range rows {
		seen[checkWords(t, s, 0)]++
	}
	if seen[api.OK] < 300 || seen[api.ErrTextNum] < 50000 {
		t.Errorf("too few of one answer: %v", seen)
	}
}

func pow(n, k int) int {
	if k == 0 {
		return 1
	}
	return n * pow(n, k-1)
}

func TestParseStrings(t *testing.T) {
	for _, x := range []struct {
		s  string
		at int
		e  api.Errno
	}{
		{`"`, 1, api.ErrQuote}, {`"a`, 2, api.ErrQuote}, {"\"\n\"", 1, api.ErrQuote}, {`"\`, 2, api.ErrEscape}, {`"\x"`, 2, api.ErrEscape}, {`"\u12g4"`, 5, api.ErrEscape}, {`"\ud83d"`, 7, api.ErrEscape}, {`"\ude00"`, 4, api.ErrEscape},
		{"\"\xff\"", 1, api.ErrUTF}, {"\"\xc3\"", 2, api.ErrUTF}, {"\"\xed\xa0\x80\"", 2, api.ErrUTF}, {"\"\xf0\x9f", 3, api.ErrUTF},
	} {
		checkFault(t, x.s, 32, x.at, x.e)
		for _, head := range []string{" ", "[", "[1, ", "{", `{"a":`, `{"a":1 , `} {
			checkFault(t, head+x.s, 32, len(head)+x.at, x.e)
		}
	}
}

func TestParseKeysTwice(t *testing.T) {
	for s, at := range map[string]int{
		`{"a":1,"a":1}`: 7, `{"a":1,"a"`: 7, `{"a":1,"a"x`: 7, `{"a":1, "a" :x`: 8, `{"a":1,"b":2,"a":3}`: 13, `{"b":1,"a":2,"b":3,"a":4}`: 13, `{"":1,"":2}`: 6,
		`{"\u0061":1,"a":2}`: 12, `{"\/":1,"/":2}`: 8, `{"\ud83d\ude00":1,"` + "\U0001f600" + `":2}`: 18, `[{"a":{"a":1,"a":2}}]`: 13, `{"a":[1],"a"`: 9, `{"a":{"a":1},"a":2}`: 13,
	} {
		checkFault(t, s, 32, at, api.ErrTextKey)
	}
	checkRead(t, `[{"a":1},{"a":{"a":2}}]`, 32, list(object(at("a", num(1))), object(at("a", object(at("a", num(2)))))))
	checkRead(t, `{"a":1,"A":2,"a ":3}`, 32, object(at("A", num(2)), at("a", num(1)), at("a ", num(3))))
	checkFault(t, `{"a":x,"a":1}`, 32, 5, api.ErrTextByte)
	checkFault(t, `{"a":1 "a":1}`, 32, 7, api.ErrTextByte)
	checkFault(t, `{"a":1,"a`, 32, 9, api.ErrQuote)
	checkFault(t, `[{"a":1,"a":1}`, 0, 1, api.ErrDeep)
}

func TestParseMore(t *testing.T) {
	for s, at := range map[string]int{
		"1 2": 2, "1,": 1, "1]": 1, "[]]": 2, "[] []": 3, "{}}": 2, "truee": 4, "nullnull": 4, `"a"b`: 3, `"a""b"`: 3, "1\x00": 1, " 1 \n x": 5, "null:": 4, "1x": 1, "false\v": 5, "{}\xff": 2, "[]1.5": 2,
	} {
		checkFault(t, s, 32, at, api.ErrTextMore)
	}
}

func TestParseDeep(t *testing.T) {
	for depth := range 41 {
		open := depth + 1
		checkRead(t, brackets(open, ""), depth, lists(depth, list()))
		checkRead(t, strings.Repeat(`{"k":`, depth)+"{}"+strings.Repeat("}", depth), depth, maps(depth, object()))
		checkRead(t, brackets(depth, "1"), depth, lists(depth, num(1)))
		for _, s := range []string{"1", "1.5", "-", "e", "null", "nx", "true", "f", `"a"`, `"`, "[", "[]", "{", "{}"} { // whatever the value itself is
			checkFault(t, strings.Repeat("[", open)+s, depth, open, api.ErrDeep)
			checkFault(t, strings.Repeat("[", open)+" \n"+s, depth, open+2, api.ErrDeep)
			checkFault(t, strings.Repeat(`{"k":`, open)+s, depth, 5*open, api.ErrDeep)
		}
		for _, s := range []string{"x", ",", "}", ":", "\xff"} { // no value begins there
			checkFault(t, strings.Repeat("[", open)+s, depth, open, api.ErrTextByte)
		}
		checkFault(t, strings.Repeat("[", open), depth, open, api.ErrTextEnd)
		checkFault(t, strings.Repeat(`{"k":`, open), depth, 5*open, api.ErrTextEnd)
		checkFault(t, strings.Repeat(`{"k":`, depth)+`{"k"x`, depth, 5*depth+4, api.ErrTextByte) // a key is no value
		checkFault(t, strings.Repeat(`{"k":`, depth)+`{"k`, depth, 5*depth+3, api.ErrQuote)
	}
	checkRead(t, "[[],[[]],{},[1]]", 2, list(list(), list(list()), object(), list(num(1)))) // brackets that were closed count no more
	checkFault(t, "[[],[[]],[[1]]]", 2, 11, api.ErrDeep)
	checkFault(t, `[{"a":[1]},{"a":[{}]},{"a":[{"b":1}]}]`, 3, 33, api.ErrDeep)
}

func TestParseNodes(t *testing.T) {
	ones := strings.Repeat("1,", 65534)
	v, at, e := Parse([]byte("["+ones+"1]"), 1)
	if e != api.OK || at != -1 || len(v.List) != 65535 {
		t.Errorf("P3.1: 65536 values: %d, %d", at, e)
	}
	for _, s := range []string{"1", "1.5", "null", "nx", `"`, "[]", "[", "{"} {
		checkFault(t, "["+ones+"1,"+s, 1, 131071, api.ErrNodes)
		checkFault(t, "["+ones+"1, "+s+"]", 1, 131072, api.ErrNodes)
		checkFault(t, "["+strings.Repeat("1,", 65532)+"[[1,"+s, 3, 131069, api.ErrNodes) // values in lists count, too
	}
	checkFault(t, "["+ones+"1,x", 1, 131071, api.ErrTextByte)
	checkFault(t, "["+ones+"1,]", 1, 131071, api.ErrTextByte)
	checkFault(t, "["+ones+"1,", 1, 131071, api.ErrTextEnd)
	checkFault(t, "["+strings.Repeat("1,", 65534)+"[1]]", 1, 131070, api.ErrNodes) // ahead of ErrDeep
	checkFault(t, "["+strings.Repeat("1,", 65533)+"[1]]", 1, 131068, api.ErrDeep)
	var keys []string
	for i := range 65535 {
		keys = append(keys, fmt.Sprintf(`"%x":1`, i))
	}
	s := "{" + strings.Join(keys, ",")
	if v, at, e := Parse([]byte(s+"}"), 1); e != api.OK || at != -1 || len(v.Map) != 65535 {
		t.Errorf("P3.1: 65535 members: %d, %d (keys don't count)", at, e)
	}
	checkFault(t, s+`,"x":1}`, 1, len(s)+5, api.ErrNodes)
	checkFault(t, s+`,"0":1}`, 1, len(s)+1, api.ErrTextKey)
	checkFault(t, s+`,"x"1}`, 1, len(s)+4, api.ErrTextByte)
}

// Every text of up to five of these pieces.
func TestParseShortTextsByTheWords(t *testing.T) {
	pieces := []string{"[", "]", "{", "}", ",", ":", `"a"`, `"`, "1", "-", "null", "t", " "}
	seen := map[api.Errno]int{}
	var all func(s string, n int)
	all = func(s string, n int) {
		seen[checkWords(t, s, 1)]++
		if n > 0 && !t.Failed() {
			for _, p := range pieces {
				all(s+p, n-1)
			}
		}
	}
	all("", 5)
	for _, e := range []api.Errno{api.OK, api.ErrTextEnd, api.ErrTextByte, api.ErrTextNum, api.ErrTextMore, api.ErrQuote, api.ErrDeep} {
		if seen[e] < 100 {
			t.Errorf("too few of one answer: %v", seen)
		}
	}
}

func TestParseByTheWords(t *testing.T) {
	r, seen := rand.New(rand.NewSource(32)), map[api.Errno]int{}
	for range 100000 {
		s := loosely(r, pick(r, 4))
		for range r.Intn(3) {
			s = spoil(r, s)
		}
		seen[checkWords(t, s, 2+r.Intn(3))]++
		if t.Failed() {
			return
		}
	}
	for _, e := range []api.Errno{api.OK, api.ErrTextEnd, api.ErrTextByte, api.ErrTextNum, api.ErrTextKey, api.ErrTextMore, api.ErrQuote, api.ErrUTF, api.ErrEscape, api.ErrDeep} {
		if seen[e] < 100 {
			t.Errorf("too few of one answer: %v", seen)
		}
	}
}

// The standard library takes more: any numbers, keys twice, bytes that are no UTF-8, halves of pairs.
func TestParseBesideTheLibrary(t *testing.T) {
	r, seen := rand.New(rand.NewSource(33)), map[api.Errno]int{}
	for range 50000 {
		s := loosely(r, pick(r, 4))
		if r.Intn(2) == 0 {
			s = spoil(r, s)
		}
		v, _, e := Parse([]byte(s), 40)
		seen[e]++
		valid := stdjson.Valid([]byte(s))
		switch e {
		case api.OK:
			d := stdjson.NewDecoder(strings.NewReader(s))
			d.UseNumber()
			var x any
			if err := d.Decode(&x); !valid || err != nil {
				t.Fatalf("P3.1: %q is read, but is no JSON", s)
			}
			if want, ok := fromLibrary(x); !ok || !same(v, want) {
				t.Fatalf("P3.1: %q is read as %s", s, wantPrint(v))
			}
		case api.ErrTextNum, api.ErrTextKey, api.ErrUTF, api.ErrEscape:
		default:
			if valid {
				t.Fatalf("P3.1: %q is JSON, but is not read: %d", s, e)
			}
		}
	}
	if seen[api.OK] < 10000 || seen[api.ErrTextByte] < 1000 {
		t.Errorf("too few of one answer: %v", seen)
	}
}
