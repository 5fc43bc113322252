package store

import (
	"bytes"
	"fmt"
	"runtime"
	"strings"
	"testing"

	"freehold/api"
)

// hold holds an answer against what the chapter says.
func hold(t *testing.T, what string, want string, got ...any) {
	t.Helper()
	if s := fmt.Sprintln(got...); s != want+"\n" {
		t.Errorf("%s = %swant %s", what, s, want)
	}
}

// example is the chapter's first example.
func example(t *testing.T) *Store {
	t.Helper()
	s, e := New(5)
	hold(t, "P19.1: New(5)", "0 5 5 0", e, s.Rev(), s.Floor(), s.Len())
	n, e := s.Create("a", []byte{1, 2})
	hold(t, "P19.3: Create(a, 1 2)", "6 0", n, e)
	n, e = s.Create("a", []byte{3})
	hold(t, "P19.3: Create(a, 3)", "0 191", n, e)
	b, n, e := s.Get("a")
	hold(t, "P19.2: Get(a)", "[1 2] 6 0", b, n, e)
	n, e = s.Swap("a", 5, []byte{9})
	hold(t, "P19.4: Swap(a, 5, 9)", "0 192", n, e)
	n, e = s.Swap("a", 6, []byte{9})
	hold(t, "P19.4: Swap(a, 6, 9)", "7 0", n, e)
	n, e = s.Swap("b", 7, []byte{9})
	hold(t, "P19.4: Swap(b, 7, 9)", "0 190", n, e)
	n, e = s.Remove("a", 6)
	hold(t, "P19.4: Remove(a, 6)", "0 192", n, e)
	n, e = s.Remove("a", 7)
	hold(t, "P19.4: Remove(a, 7)", "8 0", n, e)
	b, n, e = s.Get("a")
	hold(t, "P19.2: Get(a)", "[] 0 190", b, n, e)
	n, e = s.Create("a", []byte{4})
	hold(t, "P19.3: Create(a, 4)", "9 0", n, e)
	hold(t, "P19.1: Rev, Floor, Len", "9 5 1", s.Rev(), s.Floor(), s.Len())
	return s
}

func TestExamples(t *testing.T) {
	s := example(t)
	for _, c := range []struct {
		rev          int
		prefix, from string
		most         int
		want         string
	}{
		{6, "", "", 9, "[{a 6 [1 2]}] 0"}, {7, "", "", 9, "[{a 7 [9]}] 0"}, {8, "", "", 9, "[] 0"}, {5, "", "", 9, "[] 0"},
		{4, "", "", 9, "[] 195"}, {10, "", "", 9, "[] 196"}, {9, "b", "", 9, "[] 0"}, {9, "", "a", 0, "[] 0"}, {9, "", "a", 1, "[{a 9 [4]}] 0"},
	} {
		l, e := s.List(c.rev, c.prefix, c.from, c.most)
		hold(t, fmt.Sprintf("P19.5: List(%v)", c), c.want, l, e)
	}
	events := func(after, most int, want string) {
		t.Helper()
		l, e := s.Events(after, most)
		hold(t, fmt.Sprintf("P19.6: Events(%d, %d)", after, most), want, l, e)
	}
	events(5, 9, "[{6 1 a [1 2]} {7 2 a [9]} {8 3 a [9]} {9 1 a [4]}] 0")
	events(8, 9, "[{9 1 a [4]}] 0")
	events(5, 2, "[{6 1 a [1 2]} {7 2 a [9]}] 0")
	events(9, 9, "[] 0")
	hold(t, "P19.7: Compact(7)", "0 7", s.Compact(7), s.Floor())
	events(6, 9, "[] 195")
	l, e := s.List(7, "", "", 9)
	hold(t, "P19.5: List(7)", "[{a 7 [9]}] 0", l, e)
	hold(t, "P19.7: Compact(3)", "0 7", s.Compact(3), s.Floor())
	hold(t, "P19.7: Compact(10)", "196 7", s.Compact(10), s.Floor())
	none, _ := New(0)
	b := none.Bytes()
	if string(b) != "freehold"+strings.Repeat("\x00", 24) {
		t.Errorf("P19.8: Bytes of New(0) = %q", b)
	}
	x, e := Open(b[:31])
	hold(t, "P19.9: Open of too few bytes", "<nil> 197", x, e)
	x, e = Open(nil)
	hold(t, "P19.9: Open of none", "<nil> 197", x, e)
}

func TestBegin(t *testing.T) {
	for _, at := range []int{-1, -1 << 63, mostRev + 1, 1<<63 - 1} {
		s, e := New(at)
		hold(t, fmt.Sprintf("P19.1: New(%d)", at), "<nil> 2", s, e)
	}
	for _, at := range []int{0, 1, 5, mostRev - 1, mostRev} {
		w := begin(t, at)
		w.all("a", "")
		w.reopen()
		w.create("a", nil)
		w.create("b", []byte{1})
		w.swap("a", at+1, []byte{2})
		w.remove("b", at+2)
		w.all("a", "b")
	}
}

// TestWorn: at the last revision nothing can be written, but all can be asked, and every other error comes first.
func TestWorn(t *testing.T) {
	w := begin(t, mostRev-3)
	w.create("a", nil)
	w.swap("a", mostRev-2, []byte{1})
	w.reopen()
	if n := w.create("b", []byte{7}); n != 9007199254740991 {
		t.Errorf("P19.10: the last revision is %d", n)
	}
	for range 2 {
		w.swap("a", mostRev-1, []byte{1})
		w.swap("a", mostRev, []byte{1})
		w.swap("c", mostRev, nil)
		w.remove("a", mostRev-1)
		w.remove("a", mostRev)
		w.remove("c", mostRev)
		w.create("a", nil)
		w.create("c", nil)
		w.create("", nil)
		w.create("c", make([]byte, mostBytes+1))
		w.all("a", "b", "c")
		w.compact(mostRev + 1)
		w.compact(1<<63 - 1)
		w.compact(mostRev)
		w.all("a", "b", "c")
		w.reopen()
	}
}

func TestKeys(t *testing.T) {
	w := begin(t, 3)
	keys := []string{"", "k", "\x00", "\xff\xfe", "a/b", "a", strings.Repeat("k", 129), strings.Repeat("k", 130), strings.Repeat("\xff", 129), strings.Repeat("é", 65), strings.Repeat("k", 1<<20)}
	for _, key := range keys {
		w.get(key)
		w.swap(key, 0, nil)
		w.remove(key, 0)
		n := w.create(key, []byte(key[:min(9, len(key))]))
		w.get(key)
		w.swap(key, n+1, nil)
		w.swap(key, -1, nil)
		w.remove(key, n-1)
		n = w.swap(key, n, nil)
		w.get(key)
		w.reopen()
	}
	w.all(keys...)
	if s := w.l[0]; s.Len() != 7 {
		t.Errorf("P19.3: %d of the keys were taken", s.Len())
	}
	for _, key := range keys {
		_, n, _ := w.m.get(key)
		w.remove(key, n)
		w.remove(key, n)
	}
	w.all(keys...)
}

// TestData: of the bytes only their number is looked at; what is too long is told ahead of what is there.
func TestData(t *testing.T) {
	w := begin(t, 0)
	most, more := bytes.Repeat([]byte{0xab}, mostBytes), make([]byte, mostBytes+1)
	for _, key := range []string{"a", "", "b"} {
		w.create(key, more)
		w.swap(key, 0, more)
	}
	w.create("a", most)
	w.get("a")
	w.create("a", more)
	w.swap("a", 9, more)
	w.swap("a", 1, more)
	w.swap("a", 1, most)
	w.create("b", nil)
	w.swap("b", 3, most)
	w.swap("b", 4, most)
	w.swap("b", 5, []byte{})
	w.reopen()
	w.remove("a", 2)
	w.get("a")
	w.get("b")
	for rev := range 8 {
		w.list(rev, "", "", 9)
	}
	w.events(0, 99)
	w.numbers()
}

func TestFull(t *testing.T) {
	s, _ := New(0)
	key := func(i int) string { return fmt.Sprintf("k%04d", i) }
	for i := range mostObjects {
		if n, e := s.Create(key(i), []byte{1}); n != i+1 || e != api.OK {
			t.Fatalf("P19.3: Create(%s) = %d, %d", key(i), n, e)
		}
	}
	x, e := Open(s.Bytes())
	if e != api.OK {
		t.Fatalf("P19.9: Open of a full store's bytes = %d", e)
	}
	for _, s := range []*Store{s, x} {
		n, e := s.Create("x", nil)
		hold(t, "P19.3: Create in a full store", "0 193", n, e)
		n, e = s.Create(key(5), nil)
		hold(t, "P19.3: Create of a key that is there", "0 191", n, e)
		n, e = s.Swap(key(7), 8, nil)
		hold(t, "P19.4: Swap in a full store", "4097 0", n, e)
		n, e = s.Remove(key(9), 10)
		hold(t, "P19.4: Remove from a full store", "4098 0", n, e)
		hold(t, "P19.1: Len", "4095", s.Len())
		n, e = s.Create("x", nil)
		hold(t, "P19.3: Create", "4099 0", n, e)
		n, e = s.Create(key(9), nil)
		hold(t, "P19.3: Create", "0 193", n, e)
		l, e := s.List(4099, "", "", 1<<62)
		hold(t, "P19.5: List", "4096 x 4099 0", len(l), l[4095].Key, l[4095].Rev, e)
	}
	worn, _ := New(mostRev - mostObjects)
	for i := range mostObjects {
		worn.Create(key(i), nil)
	}
	n, e := worn.Create("x", nil)
	hold(t, "P19.3: Create in a store that is full and worn", "0 193", n, e)
}

// TestPastBound: more events than are kept; the oldest go, and the state as of the floor stays known.
func TestPastBound(t *testing.T) {
	const more = 1000
	s, _ := New(2)
	s.Create("still", []byte("here"))
	s.Create("gone", []byte("there"))
	s.Remove("gone", 4)
	n, _ := s.Create("a", []byte("0"))
	for i := 1; n < 2+mostPast; i++ {
		n, _ = s.Swap("a", n, fmt.Append(nil, i))
	}
	hold(t, "P19.7: Rev, Floor", "65538 2", s.Rev(), s.Floor())
	l, e := s.Events(2, 1)
	hold(t, "P19.6: Events(2, 1)", "[{3 1 still [104 101 114 101]}] 0", l, e)
	n, _ = s.Swap("a", n, []byte("last"))
	hold(t, "P19.7: Rev, Floor", "65539 3", s.Rev(), s.Floor())
	l, e = s.Events(2, 1)
	hold(t, "P19.6: Events(2, 1)", "[] 195", l, e)
	at, e := s.List(3, "", "", 9)
	hold(t, "P19.5: List(3)", "[{still 3 [104 101 114 101]}] 0", at, e)
	for range more {
		n, _ = s.Swap("a", n, []byte("behind"))
	}
	x, e := Open(s.Bytes())
	hold(t, "P19.9: Open", "0", e)
	for _, s := range []*Store{s, x} {
		hold(t, "P19.7: Rev, Floor, Len", "66539 1003 2", s.Rev(), s.Floor(), s.Len())
		at, e := s.List(1002, "", "", 9)
		hold(t, "P19.5: List(1002)", "[] 195", at, e)
		for _, rev := range []int{1003, 1004, 65538, 65539, 65540, 66539} {
			want := fmt.Sprintf("[{a %d %v} {still 3 %v}] 0", rev, written(rev), []byte("here"))
			at, e := s.List(rev, "", "", 9)
			hold(t, fmt.Sprintf("P19.5: List(%d)", rev), want, at, e)
		}
		l, e := s.Events(1003, 1<<62)
		hold(t, "P19.6: Events", "65536 0 1004 66539", len(l), e, l[0].Rev, l[mostPast-1].Rev)
		m, e := s.Remove("a", n)
		hold(t, "P19.4: Remove", "66540 0 1004", m, e, s.Floor())
		hold(t, "P19.7: Compact", "0 66540", s.Compact(66540), s.Floor())
	}
}

// written is what TestPastBound's object had as of a revision.
func written(rev int) []byte {
	switch {
	case rev > 65539:
		return []byte("behind")
	case rev == 65539:
		return []byte("last")
	}
	return fmt.Append(nil, rev-6)
}

func TestNone(t *testing.T) {
	var s *Store
	b, n, e := s.Get("")
	hold(t, "P19.12: Get", "[] 0 1", b, n, e)
	n, e = s.Create("", make([]byte, mostBytes+1))
	hold(t, "P19.12: Create", "0 1", n, e)
	n, e = s.Swap("", -1, make([]byte, mostBytes+1))
	hold(t, "P19.12: Swap", "0 1", n, e)
	n, e = s.Remove("", -1)
	hold(t, "P19.12: Remove", "0 1", n, e)
	l, e := s.List(-1, "", "", -1)
	hold(t, "P19.12: List", "[] 1", l, e)
	m, e := s.Events(-1, -1)
	hold(t, "P19.12: Events", "[] 1", m, e)
	hold(t, "P19.12: Compact, Rev, Floor, Len, Bytes", "1 0 0 0 []", s.Compact(-1), s.Rev(), s.Floor(), s.Len(), s.Bytes())
}

// TestZero: a Store that no call made is no reason to panic; it is as a new one.
func TestZero(t *testing.T) {
	w := begin(t, 0)
	w.l = append(w.l, new(Store), new(Store))
	w.l[2].Compact(0)
	w.all("a")
	w.create("a", []byte{1})
	w.reopen()
	w.swap("a", 1, nil)
	w.compact(1)
	w.remove("a", 2)
	w.all("a")
}

// spare is bytes with some room behind them that has bytes, too.
func spare(s string) []byte { return append([]byte(s), "spare room"...)[:len(s)] }

// whole is bytes with the room behind them.
func whole(b []byte) []byte { return b[:cap(b)] }

// spoil writes over a list of bytes, and over the room behind it.
func spoil(b []byte) {
	for i := range whole(b) {
		whole(b)[i] ^= 0xff
	}
}

// TestArguments: what is handed in is not changed and not kept.
func TestArguments(t *testing.T) {
	s, _ := New(0)
	first, then := spare("first"), spare("then")
	was := string(whole(first)) + string(whole(then))
	s.Create("a", first)
	s.Swap("a", 1, then)
	if string(whole(first))+string(whole(then)) != was {
		t.Error("P19.12: an argument was changed")
	}
	image := append(s.Bytes(), "spare room"...)
	image = image[:len(image)-10]
	text := string(whole(image))
	x, _ := Open(image)
	if string(whole(image)) != text {
		t.Error("P19.12: an image was changed")
	}
	spoil(first)
	spoil(then)
	spoil(image)
	for _, s := range []*Store{s, x} {
		if string(s.Bytes()) != text[:len(image)] {
			t.Error("P19.12: an argument was kept")
		}
		b, _, _ := s.Get("a")
		if string(b) != "then" {
			t.Errorf("P19.12: an argument was kept: %q", b)
		}
	}
}

// TestAnswers: what a caller does with an answer is seen nowhere else.
func TestAnswers(t *testing.T) {
	s, _ := New(0)
	s.Create("a", []byte("one"))
	s.Create("b", []byte("two"))
	s.Swap("a", 1, []byte("three"))
	s.Compact(2)
	s.Swap("b", 2, []byte("four"))
	s.Remove("b", 4)
	x, _ := Open(s.Bytes())
	for _, s := range []*Store{s, x} {
		image := string(s.Bytes())
		tellAll := func() string {
			b, n, e := s.Get("a")
			text := fmt.Sprintf("%q %d %d", b, n, e)
			for rev := s.Floor(); rev <= s.Rev(); rev++ {
				l, _ := s.List(rev, "", "", 9)
				m, _ := s.Events(rev, 9)
				text += fmt.Sprintf(" %v %v", l, m)
			}
			return text
		}
		was := tellAll()
		b, _, _ := s.Get("a")
		spoil(b)
		spoil(s.Bytes())
		for rev := s.Floor(); rev <= s.Rev(); rev++ {
			l, _ := s.List(rev, "", "", 9)
			for i, x := range l {
				text := fmt.Sprint(l[:i], l[i+1:])
				spoil(x.Data)
				if fmt.Sprint(l[:i], l[i+1:]) != text {
					t.Errorf("P19.12: two items of List(%d) have bytes in common", rev)
				}
			}
			clear(l[:cap(l)])
			m, _ := s.Events(rev, 9)
			for i, x := range m {
				text := fmt.Sprint(m[:i], m[i+1:])
				spoil(x.Data)
				if fmt.Sprint(m[:i], m[i+1:]) != text {
					t.Errorf("P19.12: two events of Events(%d) have bytes in common", rev)
				}
			}
			clear(m[:cap(m)])
		}
		if tellAll() != was || string(s.Bytes()) != image {
			t.Error("P19.12: an answer is memory of the store")
		}
	}
}

// held is how many bytes are in use.
func held() uint64 {
	var m runtime.MemStats
	runtime.GC()
	runtime.ReadMemStats(&m)
	return m.HeapAlloc
}

// TestKept: nothing long is kept by a piece of it, and what is forgotten is let go.
func TestKept(t *testing.T) {
	const much = 1 << 26
	was := held()
	s, _ := New(0)
	long := strings.Repeat("k", much)
	s.Create(long[:1], nil)
	s.Swap(long[1:2], 1, nil)
	s.Create(long[:2], nil)
	s.Remove(long[:2], 3)
	long = ""
	if now := held(); now > was+much/2 {
		t.Errorf("P19.12: a key's text is kept: %d bytes more", now-was)
	}
	n := 2
	for i := range much / mostBytes {
		n, _ = s.Swap("k", n, bytes.Repeat([]byte{byte(i)}, mostBytes))
	}
	s.Compact(n - 1)
	if now := held(); now > was+much/2 {
		t.Errorf("P19.7: what was forgotten is kept: %d bytes more", now-was)
	}
	l, e := s.Events(n-1, 9)
	hold(t, "P19.6: Events", "1 511 0", len(l), int(l[0].Data[0])+256, e)
	runtime.KeepAlive(s)
}
