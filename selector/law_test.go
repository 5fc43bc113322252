package selector

import (
	"math/rand"
	"slices"
	"strconv"
	"strings"
	"testing"
	"unsafe"

	"freehold/api"
)

// Every short row of the words and signs of which texts are made, alone and behind the beginnings of terms.
func TestShortTexts(t *testing.T) {
	parts := []string{"a", "in", "notin", `"b"`, `""`, "=", "!", ",", "(", ")", " "}
	for _, c := range []struct {
		front string
		long  int
	}{{"", 5}, {"a in ", 4}, {"a in (x", 4}, {"a=", 4}, {"!a", 3}, {"a,", 4}} {
		count := 0
		var each func(s string, n int)
		each = func(s string, n int) {
			if checkText(t, s) == api.OK {
				count++
			}
			for _, p := range parts {
				if n > 0 {
					each(s+p, n-1)
				}
			}
		}
		each(c.front, c.long)
		if count < 30 {
			t.Errorf("behind %q few are selectors: %d", c.front, count)
		}
	}
}

// Every short text of single bytes: words and signs that grow together.
func TestShortBytes(t *testing.T) {
	var each func(s string, n int)
	each = func(s string, n int) {
		checkText(t, s)
		for _, c := range []byte(` !=,("\in`) {
			if n > 0 {
				each(s+string(c), n-1)
			}
		}
	}
	each("", 5)
}

// Each byte, and many scalar values, wherever one can stand.
func TestEveryByte(t *testing.T) {
	for c := range 256 {
		s := string([]byte{byte(c)})
		for _, text := range []string{s, "a" + s, s + "a", "a" + s + "b", `"` + s + `"`, "!" + s, "a=" + s, "a=1" + s, "a!=" + s, "a!" + s, "a " + s, "a in" + s, "a in (" + s, "a in (x" + s, "a in (x)" + s, "a in (" + s + ")", "a in (x," + s + ")", "a," + s, "a=\"" + s + "\""} {
			checkText(t, text)
		}
		for _, word := range []string{s, "a" + s, s + "a"} {
			checkTerms(t, []api.Term{hasKey(word), hasNot(word), in(word, word), notIn(word, "", word)})
		}
	}
	for c := rune(128); c < 0x110000; c += 1 + c/40 {
		checkTerms(t, []api.Term{hasKey(string(c)), in("a", "a"+string(c))})
	}
}

var (
	someKeys = []string{"a", "b", "in", "notin", "a b", "\u00e9", "A", "-"}
	someVals = []string{"", "x", "y", "z", "in", ",", "\n", "x y", "\U0001f600"}
)

// pickTerm is a term of a few keys and values.
func pickTerm(r *rand.Rand, keys, vals int) api.Term {
	t := api.Term{Key: pickOf(r, someKeys[:keys]...), Op: 1 + r.Intn(4)}
	if t.Op == api.In || t.Op == api.NotIn {
		some := []string{pickOf(r, someVals[:vals]...)}
		for r.Intn(2) > 0 {
			some = append(some, pickOf(r, someVals[:vals]...))
		}
		t.Vals = rising(some)
	}
	return t
}

func pickTerms(r *rand.Rand, most, keys, vals int) []api.Term {
	var l []api.Term
	for range r.Intn(most + 1) {
		l = append(l, pickTerm(r, keys, vals))
	}
	return l
}

// loosely writes a selector in one of the ways in which it may be read.
func loosely(r *rand.Rand, l []api.Term) string {
	gap := func() string { return strings.Repeat(" ", max(0, r.Intn(5)-2)) }
	word := func(s string) string {
		if r.Intn(3) > 0 {
			return gap() + wantWord(s) + gap()
		}
		out := ""
		for _, c := range s {
			if c < 128 && r.Intn(2) > 0 {
				out += `\u00` + string("0123456789abcdef"[c>>4]) + pickOf(r, strings.ToUpper, strings.ToLower)(string("0123456789abcdef"[c&15]))
			} else {
				quoted := wantWord(string(c) + " ")
				out += quoted[1 : len(quoted)-2]
			}
		}
		return gap() + `"` + out + `"` + gap()
	}
	var terms []string
	for _, t := range l {
		key := word(t.Key)
		vals := slices.Clone(t.Vals)
		if len(vals) == 1 && r.Intn(2) > 0 {
			sign := map[int]string{api.In: pickOf(r, "=", "=="), api.NotIn: "!="}[t.Op]
			terms = append(terms, key+sign+word(vals[0]))
			continue
		}
		for len(vals) > 0 && r.Intn(3) == 0 {
			vals = append(vals, pickOf(r, vals...))
		}
		r.Shuffle(len(vals), func(i, k int) { vals[i], vals[k] = vals[k], vals[i] })
		for i, s := range vals {
			vals[i] = word(s)
		}
		many := "(" + strings.Join(vals, ",") + ")" + gap()
		terms = append(terms, map[int]string{api.Has: key, api.HasNot: gap() + "!" + key, api.In: key + " in" + gap() + many, api.NotIn: key + " notin" + gap() + many}[t.Op])
	}
	return gap() + strings.Join(terms, gap()+","+gap())
}

// spoil changes a text here or there.
func spoil(r *rand.Rand, s string) string {
	for range 1 + r.Intn(2) {
		i := r.Intn(len(s) + 1)
		k := min(len(s), i+r.Intn(3))
		s = s[:i] + pickOf(r, "", "", " ", "!", "=", "==", "!=", ",", "(", ")", "in", " in ", `"`, "a", "\\", "\xff", "\t") + s[k:]
	}
	return s
}

// Texts of picked selectors, written loosely, and spoilt ones.
func TestManyTexts(t *testing.T) {
	r, good, wrong := rand.New(rand.NewSource(201)), 0, 0
	for range 20000 {
		l := pickTerms(r, 4, len(someKeys), len(someVals))
		s := loosely(r, l)
		if got, place, e := Parse(s); !same(got, l) || place != -1 || e != api.OK {
			t.Fatalf("P20.1: Parse(%q) = %s, %d, %d, want %s", s, show(got), place, e, show(l))
		}
		checkText(t, s)
		if checkText(t, spoil(r, s)) == api.OK {
			good++
		} else {
			wrong++
		}
	}
	if good < 2000 || wrong < 8000 {
		t.Errorf("%d of the spoilt are texts, %d are not", good, wrong)
	}
}

// every is all labels of some keys, each with one of some values, with another one, or not there.
func every(keys, vals []string) [][]api.Member {
	l := [][]api.Member{nil}
	for _, key := range keys {
		for _, m := range l {
			for _, s := range append(slices.Clone(vals), fresh) {
				l = append(l, append(slices.Clone(m), label(key, s)))
			}
		}
	}
	return l
}

// Every short row of terms of one key, with all labels of it.
func TestShortRows(t *testing.T) {
	vals := []string{"", "x", "y"}
	var terms []api.Term
	for some := range 8 {
		var l []string
		for i, s := range vals {
			if some>>i&1 > 0 {
				l = append(l, s)
			}
		}
		terms = append(terms, in("a", l...), notIn("a", l...))
	}
	terms = append(terms[2:], hasKey("a"), hasNot("a"))
	labels := every([]string{"a"}, vals)
	none := 0
	var each func(l []api.Term, n int)
	each = func(l []api.Term, n int) {
		checkTerms(t, l)
		chosen := 0
		for _, m := range labels {
			if checkLabels(t, l, m) {
				chosen++
			}
		}
		if _, can := Simplify(l); can != (chosen > 0) {
			t.Fatalf("P20.4: Simplify(%s): %t, but %d are chosen", show(l), can, chosen)
		}
		if chosen == 0 {
			none++
		}
		for _, x := range terms {
			if n > 0 {
				each(append(slices.Clone(l), x), n-1)
			}
		}
	}
	each(nil, 3)
	if none < 500 {
		t.Errorf("few choose nothing: %d", none)
	}
}

// Picked selectors of several keys with all labels of these; what two choose, both together choose.
func TestManyRows(t *testing.T) {
	r, none, some := rand.New(rand.NewSource(202)), 0, 0
	labels := every(someKeys[:3], someVals[:3])
	for range 3000 {
		l, m := pickTerms(r, 7, 3, 3), pickTerms(r, 3, 3, 3)
		checkTerms(t, l)
		both := slices.Concat(l, m)
		chosen := 0
		for _, x := range labels {
			if checkLabels(t, l, x) {
				chosen++
			}
			if Match(both, x) != (Match(l, x) && Match(m, x)) {
				t.Fatalf("P20.5: Match(%s and %s, %+v)", show(l), show(m), x)
			}
		}
		if _, can := Simplify(l); can != (chosen > 0) {
			t.Fatalf("P20.5: Simplify(%s): %t, but %d are chosen", show(l), can, chosen)
		}
		if chosen > 0 {
			some++
		} else {
			none++
		}
	}
	if none < 500 || some < 500 {
		t.Errorf("%d choose something, %d nothing", some, none)
	}
}

// Terms that are spoilt, and members that are no labels.
func TestManyWrong(t *testing.T) {
	r, good, wrong := rand.New(rand.NewSource(203)), 0, 0
	for range 20000 {
		l := append(pickTerms(r, 3, 4, 4), pickTerm(r, 4, 4))
		x := &l[r.Intn(len(l))]
		switch r.Intn(6) {
		case 0:
			x.Op = r.Intn(7) - 1
		case 1:
			x.Key = pickOf(r, "", "\xff", long64, long65, "a\x00")
		case 2:
			x.Vals = append(x.Vals, pickOf(r, "", "x", "\xff", long64, long65))
		case 3:
			x.Vals = nil
		case 4:
			slices.Reverse(x.Vals)
		}
		if checkTerms(t, l) {
			good++
		} else {
			wrong++
		}
		var m []api.Member
		for range r.Intn(6) {
			m = append(m, at(pickOf(r, someKeys[:4]...), api.Value{Kind: pickOf(r, api.Str, api.Str, api.Str, api.Null, api.Map, 9, -3), Str: pickOf(r, someVals[:4]...), Int: r.Intn(2), Bool: r.Intn(2) > 0, List: make([]api.Value, r.Intn(2))}))
		}
		checkLabels(t, l, m)
	}
	if good < 3000 || wrong < 3000 {
		t.Errorf("%d of the spoilt are selectors, %d are not", good, wrong)
	}
}

// Whatever a call is given, spare room included, stays; whatever it answers is memory of its own.
func TestMemory(t *testing.T) {
	r := rand.New(rand.NewSource(204))
	for range 300 {
		l := roomy(pickTerms(r, 6, 3, 5))
		v := roomy(labelled(label("a", "x"), at("b", num(1)), label("c", "y")))
		under := v.Map[0].Val.Map
		s, _ := Print(l)
		was := whole(l) + whole(v)
		parse := func() any { l, _, _ := Parse(s); return l }
		simplify := func() any { l, _ := Simplify(l); return l }
		labels := func() any { return Labels(v) }
		answers := []any{l, v}
		for i, call := range []func() any{parse, simplify, labels} {
			one, two := call(), call()
			answers = append(answers, one, two)
			scribble(one)
			if three := call(); !same(two, three) {
				t.Fatalf("memory: call %d: what was written into an answer is seen in the next", i)
			}
		}
		Match(l, under)
		Print(l)
		var lists []room // asked for when all answers are there: memory that none of them holds any more may be used again
		for _, x := range answers {
			lists = append(lists, rooms(x)...)
		}
		checkApart(t, lists)
		if whole(l)+whole(v) != was {
			t.Fatal("memory: a call changed what it was given")
		}
	}
}

// A selector that was read keeps nothing of a long text.
func TestParseKeepsNothing(t *testing.T) {
	s := `a=x,!b,"c d" in (y,z,""),e` + strings.Repeat(" ", 1000)
	from := uintptr(unsafe.Pointer(unsafe.StringData(s)))
	l, _, _ := Parse(s)
	for _, x := range l {
		for _, w := range append(x.Vals, x.Key) {
			if p := uintptr(unsafe.Pointer(unsafe.StringData(w))); w != "" && p >= from && p < from+uintptr(len(s)) {
				t.Errorf("memory: the word %q is a piece of the text", w)
			}
		}
	}
}

// Many terms of one key, many keys, many labels: each call goes through them once.
func TestMany(t *testing.T) {
	const many = 200000
	name := func(i int) string { return "v" + strconv.Itoa(many*5+i) }
	var wide []string
	var labels []api.Member
	for i := range many {
		wide = append(wide, name(i))
		labels = append(labels, label(name(i), "x"), label(name(i), "y"))
	}
	for i, c := range []struct {
		first api.Term
		then  func(i int) api.Term
		want  []api.Term
		can   bool
	}{
		{hasKey("a"), func(i int) api.Term { return notIn("a", name(many-1-i)) }, []api.Term{hasKey("a"), notIn("a", wide...)}, true},
		{hasKey("a"), func(i int) api.Term { return hasKey("a") }, []api.Term{hasKey("a")}, true},
		{in("a", wide...), func(i int) api.Term { return in("a", name(7)) }, []api.Term{in("a", name(7))}, true},
		{in("a", wide...), func(i int) api.Term { return notIn("a", name(i)) }, nil, false},
		{in("a", wide...), func(i int) api.Term { return in("a", name(i)) }, nil, false},
	} {
		l := []api.Term{c.first}
		for k := range many {
			l = append(l, c.then(k))
		}
		if m, can := Simplify(l); !same(m, c.want) || can != c.can {
			t.Errorf("P20.4: the row %d of many terms: %d terms, %t", i, len(m), can)
		}
	}
	var l, back []api.Term
	for i := range many {
		l = append(l, in(name(many-1-i), "x"))
		back = append(back, in(name(i), "x"))
	}
	if m, can := Simplify(l); !same(m, back) || !can {
		t.Errorf("P20.4: many keys: %d terms, %t", len(m), can)
	}
	if !Match(l, labels) || Match(l, labels[2:]) || Match(append(l, in(name(0), "y")), labels) {
		t.Error("P20.3: many labels")
	}
	one := []api.Term{in("a", wide...)}
	if !Match(slices.Repeat(one, 5), []api.Member{label("a", name(many-1))}) {
		t.Error("P20.3: many values")
	}
}
