package store

import (
	"fmt"
	"math/rand"
	"slices"
	"testing"

	"freehold/api"
)

// now is the revision that a key has in the second reading; 0, if it is not there.
func (w *twins) now(key string) int {
	x, _ := w.m.has(key)
	return x.Rev
}

// checkMoments holds P19.10: the revisions, and that events lead from each state to each later one.
func (w *twins) checkMoments() {
	w.t.Helper()
	for _, s := range w.l {
		events, _ := s.Events(s.Floor(), mostPast)
		for i, x := range events {
			if x.Rev != s.Floor()+1+i {
				w.t.Fatalf("P19.10: the event %d has the revision %d, behind %s", i, x.Rev, w.at)
			}
		}
		for from := s.Floor(); from <= s.Rev(); from++ {
			l, _ := s.List(from, "", "", mostObjects)
			state := map[string]string{}
			revs := map[int]bool{}
			for _, x := range l {
				state[x.Key] = fmt.Sprint(x.Rev, x.Data)
				revs[x.Rev] = true
			}
			if len(revs) != len(l) || revs[0] {
				w.t.Fatalf("P19.10: revisions twice, or none: %v, behind %s", l, w.at)
			}
			for _, x := range events[from-s.Floor():] {
				if x.Kind == api.Removed {
					delete(state, x.Key)
				} else {
					state[x.Key] = fmt.Sprint(x.Rev, x.Data)
				}
				l, _ := s.List(x.Rev, "", "", mostObjects)
				for _, y := range l {
					if state[y.Key] != fmt.Sprint(y.Rev, y.Data) {
						w.t.Fatalf("P19.10: the events from %d to %d do not lead there: %v, %v, behind %s", from, x.Rev, state, l, w.at)
					}
				}
				if len(state) != len(l) {
					w.t.Fatalf("P19.10: the events from %d to %d do not lead there: %v, %v, behind %s", from, x.Rev, state, l, w.at)
				}
			}
		}
	}
}

// step does one of a few things, that a number tells; how many there are, if it is none of them.
func (w *twins) step(i int) int {
	w.t.Helper()
	steps := []func(){
		func() { w.create("a", []byte{1}) },
		func() { w.create("b", nil) },
		func() { w.swap("a", w.now("a"), []byte{2, 3}) },
		func() { w.swap("b", w.now("b"), []byte{4}) },
		func() { w.remove("a", w.now("a")) },
		func() { w.remove("b", w.now("b")) },
		func() { w.compact(w.m.rev()) },
		func() { w.compact(w.m.rev() - 1) },
	}
	if i < len(steps) {
		steps[i]()
	}
	return len(steps)
}

// TestEveryRow: every short row of steps; behind it all that can be asked, of the store and of one opened halfway.
func TestEveryRow(t *testing.T) {
	const long = 5
	count := begin(t, 0).step(99)
	rows := 1
	for range long {
		rows *= count
	}
	for row := range rows {
		w := begin(t, row%3)
		for i, x := 0, row; i < long; i, x = i+1, x/count {
			w.step(x % count)
			if i == long/2 {
				w.reopen()
			}
		}
		w.numbers()
		if row%7 == 0 {
			w.all("a", "b")
		}
		if row%17 == 0 {
			w.checkMoments()
		}
	}
}

// keys that lie close to one another in their order, or begin alike.
var someKeys = []string{"a", "a\x00", "a/", "a/b", "a/b/c", "a0", "ab", "b", "b/\xff", "\xff", "\x00", "t/x"}

// TestPicked: long picked rows of calls, right and wrong ones, of stores that are opened anew on the way.
func TestPicked(t *testing.T) {
	for seed := range 60 {
		r := rand.New(rand.NewSource(int64(seed)))
		key := func() string { return someKeys[r.Intn(len(someKeys))] }
		data := func() []byte { return []byte("some bytes")[:r.Intn(11)] }
		w := begin(t, r.Intn(4)*r.Intn(100))
		near := func() int { return w.m.rev() - r.Intn(9) + 1 }
		for range 150 {
			k := key()
			rev := w.now(k)
			if r.Intn(5) == 0 {
				rev = near()
			}
			switch r.Intn(12) {
			case 0, 1, 2:
				w.create(k, data())
			case 3, 4:
				w.swap(k, rev, data())
			case 5, 6:
				w.remove(k, rev)
			case 7:
				if r.Intn(4) == 0 {
					w.compact(near())
				}
			case 8:
				w.list(near(), key()[:1], key(), r.Intn(9)-1)
			case 9:
				w.list(w.m.floor+r.Intn(w.m.rev()-w.m.floor+1), "", key(), 99)
			case 10:
				w.events(near(), r.Intn(9)-1)
			case 11:
				w.get(k)
			}
			if r.Intn(50) == 0 && len(w.l) < 4 {
				w.reopen()
			}
		}
		w.all(someKeys...)
		if seed%6 == 0 {
			w.checkMoments()
		}
	}
}

// TestUnchanged: what was told of a revision is told of it as long as it can be asked for, whatever is written.
func TestUnchanged(t *testing.T) {
	r := rand.New(rand.NewSource(19))
	s, _ := New(0)
	var told []string
	look := func(rev int) string {
		l, e := s.List(rev, "", "", 99)
		return fmt.Sprint(l, e)
	}
	told = append(told, look(0))
	for s.Rev() < 300 {
		key := someKeys[r.Intn(len(someKeys))]
		_, rev, e := s.Get(key)
		switch {
		case e == api.ErrMissing:
			s.Create(key, []byte{byte(s.Rev())})
		case r.Intn(3) == 0:
			s.Remove(key, rev)
		default:
			s.Swap(key, rev, []byte{byte(s.Rev()), 1})
		}
		told = append(told, look(s.Rev()))
		if r.Intn(20) == 0 {
			s.Compact(s.Rev() - r.Intn(30))
		}
		for rev := range told {
			now := look(rev)
			if rev >= s.Floor() && now != told[rev] || rev < s.Floor() && now != "[] 195" {
				t.Fatalf("P19.10: at %d, floor %d, the state as of %d was %s and is %s", s.Rev(), s.Floor(), rev, told[rev], now)
			}
		}
	}
}

// TestOwnRevisions: an object's revision is that of its last event, and it is what a swap asks for.
func TestOwnRevisions(t *testing.T) {
	s, _ := New(40)
	var revs []int
	for i := range 60 {
		key := someKeys[i%len(someKeys)]
		_, rev, e := s.Get(key)
		if e == api.ErrMissing {
			rev, _ = s.Create(key, nil)
		} else {
			rev, _ = s.Swap(key, rev, nil) // the bytes that it has: a write all the same
		}
		revs = append(revs, rev)
		if _, is, _ := s.Get(key); is != rev || s.Rev() != rev {
			t.Fatalf("P19.10: written at %d, told as %d, the counter is %d", rev, is, s.Rev())
		}
	}
	slices.Sort(revs)
	if u := slices.Compact(slices.Clone(revs)); len(u) != 60 || revs[0] != 41 || revs[59] != 100 {
		t.Errorf("P19.10: the revisions %v", revs)
	}
	if l, _ := s.Events(88, 99); len(l) != 12 {
		t.Errorf("P19.4: writes of the same bytes: %v", l)
	}
}
