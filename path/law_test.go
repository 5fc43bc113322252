package path

import (
	"math/rand"
	"slices"
	"testing"

	"freehold/api"
	"freehold/json"
	"freehold/quote"
	"freehold/value"
)

// Every short text of the bytes that elements are made of, alone and behind the beginnings of elements.
func TestShortTexts(t *testing.T) {
	count := 0
	for _, front := range []string{"", "[=", "[a=", `."`, "[a=1"} {
		var each func(s string, n int)
		each = func(s string, n int) {
			if checkText(t, front+s) == api.OK {
				count++
			}
			for _, c := range `.[]=,"a1-` {
				if n > 0 {
					each(s+string(c), n-1)
				}
			}
		}
		each("", 5)
	}
	if count < 1000 {
		t.Errorf("few are paths: %d", count)
	}
}

// Each byte, and each scalar value, as a name, within one, and in a value.
func TestEveryByte(t *testing.T) {
	for c := range 256 {
		s := string([]byte{byte(c)})
		for _, text := range []string{"." + s, ".a" + s, "." + s + "a", `."` + s + `"`, `."` + s + ` "`, "[" + s + "=1]", "[a" + s + "=1]", "[=" + s + "]", "[=1" + s + "]", `[="` + s + `"]`, "[a=" + s + "]", "[a=1" + s, "[a=1]" + s, `[=1]` + s, s} {
			checkText(t, text)
		}
		for _, name := range []string{s, "a" + s, s + "a"} {
			checkPath(t, api.Path{field(name)})
			checkPath(t, api.Path{key(at(name, num(1)))})
			checkPath(t, api.Path{item(text(name))})
		}
	}
	for c := rune(128); c < 0x110000; c += 1 + c/40 {
		checkPath(t, steps(string(c), "a"+string(c)))
	}
}

// Picked paths and spoilt ones against the second reading.
func TestManyPaths(t *testing.T) {
	r, good, wrong := rand.New(rand.NewSource(91)), 0, 0
	for range 8000 {
		p := pickPath(r)
		if !checkPath(t, p) && len(p) <= 32 {
			t.Fatalf("a picked path: %s", show(p))
		}
		q := near(r, p)
		checkTwo(t, p, q)
		checkTwo(t, q, p)
		bad := spoil(r, p)
		if checkPath(t, bad) {
			good++
		} else {
			wrong++
		}
		checkTwo(t, p, bad)
		checkTwo(t, bad, q)
	}
	if good < 800 || wrong < 3000 {
		t.Errorf("%d of the spoilt are paths, %d are not", good, wrong)
	}
}

// Texts of picked paths, and spoilt ones.
func TestManyTexts(t *testing.T) {
	r, good, wrong := rand.New(rand.NewSource(92)), 0, 0
	for range 30000 {
		s, _ := wantText(pickPath(r))
		if checkText(t, spoilText(r, s)) == api.OK {
			good++
		} else {
			wrong++
		}
	}
	if good < 2000 || wrong < 10000 {
		t.Errorf("%d of the spoilt are texts, %d are not", good, wrong)
	}
}

// elems is some elements of every sort, near each other.
func elems() []api.Elem {
	return []api.Elem{
		field(""), field("\x00"), field("a"), field("a\x00"), field("ab"), field("1"),
		key(at("", num(1))), key(at("a", num(1))), key(at("a", num(1)), at("b", num(1))), key(at("a", text("1"))), key(at("b", num(1))),
		item(truth(false)), item(truth(true)), item(num(1)), item(text("")), item(text("1")), item(text("a")),
	}
}

// few is all paths of up to two of those elements.
func few() []api.Path {
	l := []api.Path{nil}
	for _, a := range elems() {
		l = append(l, api.Path{a})
		for _, b := range elems() {
			l = append(l, api.Path{a, b})
		}
	}
	return l
}

func TestOrderOfAll(t *testing.T) {
	l, by := few(), map[string]int{}
	for i, p := range l {
		s, _ := Text(p)
		if k, twice := by[s]; twice {
			t.Fatalf("P9.9: %s and %s have the text %s", show(l[k]), show(p), s)
		}
		by[s] = i
		for k, q := range l {
			checkTwo(t, p, q)
			if c := Compare(p, q); c != -Compare(q, p) || (c == 0) != (i == k) {
				t.Fatalf("P9.8: Compare(%s, %s) = %d", show(p), show(q), c)
			} else if c > 0 && Above(p, q) {
				t.Fatalf("P9.8: %s is above %s, and greater", show(p), show(q))
			}
		}
	}
	sorted, e := Sort(l)
	if e != api.OK || len(sorted) != len(l) {
		t.Fatalf("P9.7: Sort of %d paths: %d, %d", len(l), len(sorted), e)
	}
	for i, p := range sorted { // all that p is above stands side by side behind it
		n := i
		for n < len(sorted) && Above(p, sorted[n]) {
			n++
		}
		for k, q := range sorted {
			if Above(p, q) != (k >= i && k < n) {
				t.Fatalf("P9.8: %s and %s, and what lies between", show(p), show(q))
			}
		}
	}
}

func TestOrderOfPicked(t *testing.T) {
	r, between := rand.New(rand.NewSource(93)), 0
	for range 25000 {
		a := pickPath(r)
		b := near(r, a)
		c := near(r, b)
		if Check(a) != api.OK || Check(b) != api.OK || Check(c) != api.OK {
			continue
		}
		l, _ := Sort([]api.Path{c, a, b})
		if len(l) < 3 {
			continue
		}
		a, b, c = l[0], l[1], l[2]
		if Compare(a, b) != -1 || Compare(b, c) != -1 || Compare(a, c) != -1 || Compare(c, a) != 1 || Compare(c, b) != 1 || Compare(b, a) != 1 {
			t.Fatalf("P9.8: %s, %s, %s do not rise", show(a), show(b), show(c))
		}
		common := 0
		for common < min(len(a), len(c)) && same(a[common], c[common]) {
			common++
		}
		for n := range common + 1 {
			if !Above(c[:n], a) || !Above(a[:n], b) || !Above(a[:n], c) || Compare(a[:n], a) == 1 {
				t.Fatalf("P9.8: %s is above %s and %s", show(a[:n]), show(a), show(c))
			}
			between++
		}
	}
	if between < 8000 {
		t.Errorf("few were looked at: %d", between)
	}
}

func TestSort(t *testing.T) {
	r, twice, refused := rand.New(rand.NewSource(94)), 0, 0
	for range 4000 {
		var l []api.Path
		for range r.Intn(12) {
			p := pickPath(r)
			if len(l) > 0 && r.Intn(2) == 0 {
				p = near(r, pickOf(r, l...))
			}
			l = append(l, p)
		}
		got, e := Sort(l)
		want, f := wantSort(l)
		if e != f || !same(got, want) {
			t.Fatalf("P9.7: Sort(%v) = %v, %d, want %v, %d", l, got, e, want, f)
		}
		if e != api.OK {
			refused++
		} else if len(got) < len(l) {
			twice++
		}
		r.Shuffle(len(l), func(i, k int) { l[i], l[k] = l[k], l[i] })
		if again, g := Sort(l); g != f || !same(again, want) {
			t.Fatalf("P9.7: Sort(%v) = %v, %d, want %v, %d", l, again, g, want, f)
		}
	}
	if twice < 500 || refused < 100 {
		t.Errorf("few of one sort: %d, %d", twice, refused)
	}
}

// Many paths take no longer than sorting does.
func TestSortOfMany(t *testing.T) {
	r := rand.New(rand.NewSource(95))
	var l []api.Path
	for range 200000 {
		l = append(l, api.Path{field("spec"), key(at("id", num(r.Intn(100000)))), field("port")})
	}
	got, e := Sort(l)
	if e != api.OK || len(got) < 50000 || len(got) > 100000 {
		t.Fatalf("P9.7: %d paths, %d", len(got), e)
	}
	for i := 1; i < len(got); i++ {
		if Compare(got[i-1], got[i]) != -1 {
			t.Fatalf("P9.7: %s and %s", show(got[i-1]), show(got[i]))
		}
	}
}

// The words that the chapter borrows from the layers below.
func TestAsTheLayersBelow(t *testing.T) {
	r := rand.New(rand.NewSource(96))
	for range 20000 {
		a, b, name := pickScalar(r), pickScalar(r), pickName(r)
		if c := Compare(api.Path{item(a)}, api.Path{item(b)}); c != value.Compare(a, b) {
			t.Fatalf("P9.2: %+v and %+v: %d", a, b, c)
		}
		if c := Compare(api.Path{key(at("k", a))}, api.Path{key(at("k", b))}); c != value.Compare(a, b) {
			t.Fatalf("P9.2: %+v and %+v as values of a key: %d", a, b, c)
		}
		written, _ := json.Print(a, 0)
		quoted, _ := quote.Quote(name + " ")
		if s, e := Text(api.Path{item(a), key(at(name+" ", a)), field(name + " ")}); e != api.OK || s != "[="+string(written)+"]["+quoted+"="+string(written)+"]."+quoted {
			t.Fatalf("P9.4: %s, %d: it has not the texts %s and %s", s, e, written, quoted)
		}
	}
}

// Whatever a call is given, spare room included, stays; whatever it answers is memory of its own.
func TestMemory(t *testing.T) {
	r := rand.New(rand.NewSource(97))
	for range 600 {
		p := pickPath(r)
		q := near(r, p)
		if r.Intn(4) == 0 {
			q = spoil(r, q)
		}
		p, q = roomy(p), roomy(q)
		l := roomy([]api.Path{p, q, p, nil, q})
		l[0], l[3] = p, nil
		was := whole(p) + whole(q) + whole(l)
		Check(p)
		Compare(p, q)
		Above(p, q)
		s, _ := Text(p)
		front, end, _ := Last(p)
		other, last, _ := Last(p)
		one, _, _ := Parse(s)
		two, _, _ := Parse(s)
		first, e := Sort(l)
		second, _ := Sort(l)
		if whole(p)+whole(q)+whole(l) != was {
			t.Fatalf("P9.10: a call changed what it was given: %s, %s", show(p), show(q))
		}
		given := rooms(l[1:]) // the first of the list is p itself
		checkApart(t, "the answers", slices.Concat(given, rooms(p), rooms(q), rooms(front), rooms(end), rooms(other), rooms(last), rooms(one), rooms(two), rooms(first), rooms(second)))
		scribble(front)
		scribble(end)
		scribble(one)
		scribble(first)
		if again, x, _ := Last(p); !same(again, other) || !same(x, last) {
			t.Fatal("P9.10: what was written into an answer of Last is seen in the next")
		}
		if again, _, _ := Parse(s); !same(again, two) {
			t.Fatal("P9.10: what was written into an answer of Parse is seen in the next")
		}
		if again, f := Sort(l); e != f || !same(again, second) {
			t.Fatal("P9.10: what was written into an answer of Sort is seen in the next")
		}
	}
}

// The room of what is handed in is in no answer, also where it is empty.
func TestEmptyRoom(t *testing.T) {
	p := roomy(api.Path{field("a"), key(at("k", num(1))), item(text("x"))})
	for range 3 {
		front, end, _ := Last(p)
		l, _ := Sort([]api.Path{p})
		for _, e := range append(slices.Concat(front, l[0]), end) {
			if cap(e.Item.List)+cap(e.Item.Map) > 0 || e.Kind != api.ElemKey && cap(e.Key) > 0 || e.Kind == api.ElemKey && cap(e.Key[0].Val.List)+cap(e.Key[0].Val.Map) > 0 {
				t.Errorf("P9.10: an empty list of %+v has room", e)
			}
		}
		p = p[:len(p)-1]
	}
}
