package feed

import (
	"fmt"
	"math/rand"
	"slices"
	"strings"
	"testing"
	"unsafe"

	"freehold/api"
)

// write does a picked write.
func (w *world) write(r *rand.Rand) {
	w.t.Helper()
	key := pickOf(r, someKeys...)
	if _, _, e := w.st.Get(key); e == api.OK && r.Intn(3) == 0 {
		w.remove(key)
		return
	}
	data := pickOf(r, someData()...)
	if w.long && r.Intn(5) == 0 {
		data = rec(`{"t":"`+pickOf(r, "1", "2")+`"}`, pickOf(r, 40000, 70000, mostBytes-200, mostBytes))
	}
	w.put(key, data)
}

func pickedWorld(t *testing.T, r *rand.Rand, writes int) *world {
	t.Helper()
	w := newWorld(t, r.Intn(3)*r.Intn(100))
	w.long = r.Intn(10) == 0
	for range writes {
		w.write(r)
	}
	return w
}

func pickedChoice(r *rand.Rand) (string, string) {
	return pickOf(r, "", "", "x", "x", "y", "xy", "x/a", "z"), pickOf(r, someSelectors...)
}

// TestOneMoment holds P21.6: rows of pages, with writes between.
func TestOneMoment(t *testing.T) {
	r := rand.New(rand.NewSource(216))
	whole, cutOff, most := 0, 0, 0
	for range 1500 {
		w := pickedWorld(t, r, r.Intn(60))
		kind, sel := pickedChoice(r)
		if r.Intn(2) == 0 {
			kind, sel = "", pickOf(r, "", "!u", "t!=3")
		}
		moment := w.rev()
		want := w.state(moment, kind, sel)
		var got []api.Item
		pages, s := 0, ""
		for {
			p := w.checkPage(kind, loosely(r, sel), 1+r.Intn(3), s)
			if p.E != api.OK {
				if p.E != api.ErrExpired || w.st.Floor() <= moment {
					t.Fatalf("P21.6: a row from %d on, floor %d, ends with %d", moment, w.st.Floor(), p.E)
				}
				cutOff++
				break
			}
			if p.Rev != moment || p.Next != "" && len(p.L) == 0 {
				t.Fatalf("P21.6: a page as of %d in a row as of %d, of %d objects", p.Rev, moment, len(p.L))
			}
			got = append(got, p.L...)
			pages++
			if s = p.Next; s == "" {
				if !same(got, want) {
					t.Fatalf("P21.6: the pages are %s, want %s", cut(got), cut(want))
				}
				whole++
				most = max(most, pages)
				break
			}
			for range r.Intn(3) {
				w.write(r)
			}
			if r.Intn(9) == 0 {
				w.st.Compact(w.rev() - r.Intn(3))
			}
		}
	}
	if whole < 900 || cutOff < 50 || most < 8 {
		t.Errorf("%d rows to the end, %d cut off, %d pages at the most", whole, cutOff, most)
	}
}

// loosely is one of the selectors, written in another way.
func loosely(r *rand.Rand, sel string) string {
	if r.Intn(2) == 0 {
		sel = strings.NewReplacer(",", " , ", "t=", "\"t\" == ").Replace(sel)
	}
	return strings.Repeat(" ", r.Intn(2)) + sel + strings.Repeat(" ", r.Intn(3))
}

// TestFollowing holds P21.7: a cache behind each event holds what stood at its revision.
func TestFollowing(t *testing.T) {
	r := rand.New(rand.NewSource(217))
	steps := 0
	for range 120 {
		w := pickedWorld(t, r, r.Intn(30))
		c := newPair(t)
		c.load(w.state(w.rev(), "", ""), w.rev())
		for at := w.rev(); ; {
			for range r.Intn(6) {
				w.write(r)
			}
			if r.Intn(5) == 0 {
				w.st.Compact(at)
			}
			x := w.checkEvents("", at, 1+r.Intn(5))
			if x.E != api.OK {
				t.Fatalf("P21.7: events behind %d: %d", at, x.E)
			}
			for _, y := range x.L {
				if e := c.take(y); e != api.OK {
					t.Fatalf("P21.7: of %s: %d", cut(y), e)
				}
				if l, want := c.c.List(""), w.state(y.Rev, "", ""); !same(l, want) {
					t.Fatalf("P21.7: at %d the cache holds %s, want %s", y.Rev, cut(l), cut(want))
				}
				steps++
			}
			if at = x.On; at == w.rev() && len(w.log) > 60 {
				break
			}
		}
	}
	if steps < 3000 {
		t.Errorf("few events: %d", steps)
	}
}

// TestFiltered holds P21.8: what a filter tells keeps a cache at the choice.
func TestFiltered(t *testing.T) {
	r := rand.New(rand.NewSource(218))
	count := map[int]int{}
	for range 400 {
		w := pickedWorld(t, r, r.Intn(30))
		kind, sel := pickedChoice(r)
		f, c := newBoth(t, kind, sel), newPair(t)
		at := w.rev()
		c.load(w.state(at, kind, sel), at)
		if r.Intn(2) == 0 {
			f.load(w.state(at, kind, sel), at)
		} else {
			f.load(w.state(at, "", ""), at)
		}
		for range 40 {
			w.write(r)
		}
		l, e := w.st.Events(at, 99)
		if e != api.OK {
			t.Fatal(e)
		}
		for _, x := range l {
			told, e := f.take(x)
			if e != api.OK || len(told) > 1 {
				t.Fatalf("P21.8: %s is filtered to %s, %d", cut(x), cut(told), e)
			}
			count[len(told)*(3+x.Kind)]++
			for _, y := range told {
				count[10*x.Kind+y.Kind]++
				if e := c.take(y); e != api.OK {
					t.Fatalf("P21.8: the cache does not take %s: %d", cut(y), e)
				}
			}
			if l, want := c.c.List(""), w.state(x.Rev, kind, sel); !same(l, want) {
				t.Fatalf("P21.8: of %s, %s at %d the cache holds %s, want %s", kind, sel, x.Rev, cut(l), cut(want))
			}
		}
	}
	for _, k := range []int{11, 22, 21, 23, 33} { // a swap told as a creation and as a removal, too
		if count[k] < 100 {
			t.Errorf("P21.8: few of %d: %v", k, count)
		}
	}
	if len(count) != 9 {
		t.Errorf("P21.8: %v", count)
	}
}

// TestEveryRow: every short row of events, right and wrong ones, of a filter and a cache.
func TestEveryRow(t *testing.T) {
	const long = 4
	type what struct {
		kind, more int
		key        string
		data       []byte
	}
	var steps []what
	for _, key := range []string{"x/a", "x/b", "y/c"} {
		steps = append(steps, what{1, 1, key, marked("1")}, what{2, 1, key, marked("1")}, what{2, 2, key, marked("2")}, what{3, 1, key, marked("1")})
	}
	steps = append(steps, what{1, 0, "x/a", marked("1")}, what{3, -1, "x/a", nil}, what{0, 1, "x/a", nil}, what{4, 1, "x/a", marked("1")}, what{-1, 1, "x/a", nil})
	rows := 1
	for range long {
		rows *= len(steps)
	}
	taken := 0
	for row := range rows {
		f, c := newBoth(t, "x", "t=1"), newPair(t)
		if row%3 == 1 {
			l := []api.Item{{Key: "x/a", Rev: 2, Data: marked("1")}, {Key: "x/b", Rev: 1, Data: marked("2")}}
			f.load(l, 5)
			c.load(l, 5)
		}
		for i, x := 0, row; i < long; i, x = i+1, x/len(steps) {
			s := steps[x%len(steps)]
			if l, _ := f.take(api.Event{Rev: f.rev + s.more, Kind: s.kind, Key: s.key, Data: s.data}); len(l) > 0 {
				taken++
			}
			c.take(api.Event{Rev: c.rev + s.more, Kind: s.kind, Key: s.key, Data: append([]byte{byte(i)}, s.data...)})
		}
	}
	if taken < 50000 {
		t.Errorf("few events are told: %d", taken)
	}
}

// TestLoads: every short list, rising or not, with revisions that may be and others.
func TestLoads(t *testing.T) {
	var lists [][]api.Item
	lists = append(lists, nil, []api.Item{})
	for _, a := range []string{"", "x/a", "x/b", "y/c", "\xff"} {
		for _, m := range []int{-1, 0, 1, 3, 4, mostRev} {
			one := []api.Item{{Key: a, Rev: m, Data: marked("1")}}
			lists = append(lists, one)
			for _, b := range []string{"", "x/a", "x/b", "y/c", "\xff"} {
				for _, n := range []int{-1, 0, 1, 3, 4, mostRev, mostRev + 1} {
					two := append(slices.Clone(one), api.Item{Key: b, Rev: n, Data: marked("2")})
					for _, c := range []string{"\xff\xff", "x/aa", b} {
						lists = append(lists, two, append(slices.Clone(two), api.Item{Key: c, Rev: m}))
					}
				}
			}
		}
	}
	f, g, c := newBoth(t, "x", "t=1"), newBoth(t, "", ""), newPair(t)
	good := 0
	for i, l := range lists {
		for _, rev := range []int{-1 << 63, -1, 0, 1, 2, 3, 4, mostRev, mostRev + 1, 1<<63 - 1} {
			f.load(l, rev)
			g.load(l, rev)
			if c.load(l, rev) == api.OK {
				good++
			}
			if i%7 == 0 { // it holds, at its revision, what was loaded last
				for _, key := range []string{"", "x/a", "x/b"} {
					x := api.Event{Rev: f.rev + 1, Kind: api.Removed, Key: key}
					f.take(api.Event{Rev: f.rev, Kind: api.Removed, Key: key})
					f.take(x)
					x.Rev = g.rev + 1
					g.take(x)
					x.Rev = c.rev + 1
					c.take(x)
				}
			}
		}
	}
	if good < 500 {
		t.Errorf("few lists are loaded: %d", good)
	}
}

// TestPicked: picked calls of all sorts, of one filter and one cache each.
func TestPicked(t *testing.T) {
	r := rand.New(rand.NewSource(219))
	told, refused := 0, 0
	for range 300 {
		kind, sel := pickedChoice(r)
		f, c := newBoth(t, kind, sel), newPair(t)
		for range 60 {
			x := api.Event{Rev: f.rev + pickOf(r, 1, 1, 1, 1, 2, 9, 0, -1, -5), Kind: pickOf(r, 1, 1, 1, 1, 2, 2, 2, 2, 3, 3, 3, 0, 4, 1<<63-1, -1<<63), Key: pickOf(r, someKeys...), Data: pickOf(r, someData()...)}
			if r.Intn(30) == 0 {
				x.Data = rec(`{"t":"1"}`, pickOf(r, mostBytes, mostBytes+1, 3*mostBytes))
			}
			if r.Intn(20) == 0 {
				var l []api.Item
				for _, key := range slices.Sorted(slices.Values(someKeys)) {
					l = append(l, api.Item{Key: key, Rev: 1 + r.Intn(20), Data: pickOf(r, someData()...)})
				}
				rev := pickOf(r, 19, 20, 20, 30)
				f.load(l, rev)
				c.load(l, rev)
			}
			l, e := f.take(x)
			if told += len(l); e != api.OK {
				refused++
			}
			x.Rev += c.rev - f.rev
			c.take(x)
		}
	}
	if told < 1000 || refused < 3000 {
		t.Errorf("%d events are told, %d refused", told, refused)
	}
}

// Bytes that are too many for a record have no labels, but can be in a choice that asks for none.
func TestLongData(t *testing.T) {
	for _, sel := range []string{"", "t", "!t"} {
		f := newBoth(t, "x", sel)
		for i, n := range []int{mostBytes, mostBytes + 1, 100, 5 * mostBytes} {
			f.take(api.Event{Rev: i + 1, Kind: api.Swapped, Key: "x/a", Data: rec(`{"t":"1"}`, n)})
		}
	}
}

// What is handed in is not changed and not kept, spare room too.
func TestArguments(t *testing.T) {
	f, c := newBoth(t, "x", "t=1"), newPair(t)
	a, b := roomy(marked("1")), roomy(rec(`{"t":"1","u":"2"}`, 0))
	l := make([]api.Item, 2, 4)
	l[0], l[1] = api.Item{Key: "x/a", Rev: 1, Data: a}, api.Item{Key: "x/b", Rev: 2, Data: b}
	full := l[:4]
	full[2], full[3] = api.Item{Key: "x/c", Rev: 3}, api.Item{Key: "a", Rev: 9}
	x := api.Event{Rev: 5, Kind: api.Swapped, Key: "x/b", Data: b}
	all := func() string { return fmt.Sprintf("%v %v %v %v", full, a[:cap(a)], b[:cap(b)], x) }
	was := all()
	f.load(l, 4)
	c.load(l, 4)
	first, _ := f.f.Take(x)
	c.c.Take(x)
	if all() != was {
		t.Errorf("P21.9: an argument was changed: %s, %s", was, all())
	}
	spoil(a)
	spoil(b)
	clear(full)
	want := []api.Item{{Key: "x/a", Rev: 1, Data: marked("1")}, {Key: "x/b", Rev: 5, Data: rec(`{"t":"1","u":"2"}`, 0)}}
	if got := c.c.List(""); !same(got, want) {
		t.Errorf("P21.9: the cache kept an argument: %s", cut(got))
	}
	if !same(first, []api.Event{{Rev: 5, Kind: api.Swapped, Key: "x/b", Data: want[1].Data}}) {
		t.Errorf("P21.9: an answer is an argument's memory: %s", cut(first))
	}
	for i, y := range want {
		if got, _ := f.f.Take(api.Event{Rev: 6 + i, Kind: api.Removed, Key: y.Key}); len(got) != 1 || string(got[0].Data) != string(y.Data) {
			t.Errorf("P21.9: the filter kept an argument: %s", cut(got))
		}
	}
}

// What a caller does with an answer is seen nowhere else.
func TestAnswers(t *testing.T) {
	w := newWorld(t, 0)
	for _, key := range []string{"x/a", "x/b", "x/c"} {
		w.put(key, roomy(marked("1")))
	}
	f, c := newBoth(t, "", "t"), newPair(t)
	list := w.state(3, "", "")
	f.load(list, 3)
	c.load(list, 3)
	y := api.Event{Rev: 3, Kind: api.Swapped, Key: "x/a", Data: roomy(marked("2"))}
	answers := []any{list, y}
	for range 3 {
		l, _, _, _ := Page(w.st, "", "t", 9, "")
		m, _, _ := Events(w.st, "", 0, 9)
		n := c.c.List("x")
		one, _ := c.c.Get("x/a")
		y.Rev++
		told, _ := f.f.Take(y)
		lastPage, lastEvents := w.checkPage("", "t", 9, ""), w.checkEvents("", 0, 9)
		c.check()
		answers = append(answers, l, m, n, one, told, lastPage, lastEvents)
		for _, x := range append(append(l, n...), one) {
			spoil(x.Data)
		}
		for _, x := range append(m, told...) {
			spoil(x.Data)
		}
		clear(l[:cap(l)])
		clear(n[:cap(n)])
		clear(m[:cap(m)])
		w.checkPage("", "t", 9, "")
		w.checkEvents("", 0, 9)
		c.check()
		if !same(lastPage, w.page("", "t", 9, "")) || !same(lastEvents, w.events("", 0, 9)) {
			t.Fatal("P21.9: what was written into an answer is seen in another one")
		}
	}
	gone, _ := f.f.Take(api.Event{Rev: 9, Kind: api.Removed, Key: "x/a"})
	if len(gone) != 1 || string(gone[0].Data) != string(marked("2")) {
		t.Errorf("P21.9: what was written into an answer is seen in a later one: %s", cut(gone))
	}
	checkApart(t, rooms(append(answers, gone)...))
}

// Of a long text of which a kind or a key is a piece nothing is kept.
func TestKept(t *testing.T) {
	long := "x/a" + strings.Repeat(" ", 1000)
	from := uintptr(unsafe.Pointer(unsafe.StringData(long)))
	apart := func(what, s string) {
		t.Helper()
		if p := uintptr(unsafe.Pointer(unsafe.StringData(s))); s != "" && p >= from && p < from+uintptr(len(long)) {
			t.Errorf("P21.9: %s is a piece of what was handed in", what)
		}
	}
	f, _ := NewFilter(long[:1], "")
	c := NewCache()
	apart("a filter's kind", f.choice.kind)
	x := api.Item{Key: long[:3], Rev: 1}
	for rev := 1; rev < 4; rev++ {
		if rev == 1 {
			f.Load([]api.Item{x}, 1)
			c.Load([]api.Item{x}, 1)
		} else {
			f.Take(api.Event{Rev: rev, Kind: api.Swapped, Key: x.Key})
			c.Take(api.Event{Rev: rev, Kind: api.Swapped, Key: x.Key})
		}
		for key := range f.held {
			apart("a filter's key", key)
		}
		for key, x := range c.held {
			apart("a cache's key", key)
			apart("a cache's item's key", x.Key)
		}
	}
}
