package store

import (
	"fmt"
	"math/rand"
	"slices"
	"strings"
	"testing"

	"freehold/api"
)

// someImages is images of small stores.
func someImages(t *testing.T) [][]byte {
	t.Helper()
	var l [][]byte
	add := func(s *Store) { l = append(l, s.Bytes()) }
	s, _ := New(0)
	add(s)
	s = example(t)
	add(s)
	s.Compact(7)
	add(s)
	s.Create("b", nil)
	s.Swap("a", 9, []byte("abc"))
	s.Remove("b", 10)
	add(s)
	s.Compact(10)
	add(s)
	s.Compact(12)
	add(s)
	s, _ = New(255)
	for _, key := range someKeys[:4] {
		s.Create(key, []byte(key))
	}
	s.Compact(258)
	s.Remove("a", 256)
	s.Create("a", nil)
	add(s)
	s, _ = New(mostRev - 2)
	s.Create("a", nil)
	s.Compact(mostRev - 1)
	s.Swap("a", mostRev-1, nil)
	add(s)
	return l
}

// TestNearImages: all bytes that are an image but for one byte (another one, one less, one more), or for its end.
func TestNearImages(t *testing.T) {
	good := 0
	for _, b := range someImages(t) {
		if !checkOpen(t, b) {
			t.Fatalf("P19.9: %q is no image", b)
		}
		for i := range b {
			checkOpen(t, b[:i])
			checkOpen(t, slices.Delete(slices.Clone(b), i, i+1))
			checkOpen(t, slices.Insert(slices.Clone(b), i, b[i]))
			for c := range 256 {
				x := slices.Clone(b)
				x[i] = byte(c)
				if checkOpen(t, x) {
					good++
				}
			}
		}
		for c := range 256 {
			checkOpen(t, append(slices.Clone(b), byte(c)))
		}
		checkOpen(t, append(slices.Clone(b), b...))
	}
	if good < 1000 {
		t.Errorf("only %d of those were images", good)
	}
}

// TestNumbers: each number of an image as another one.
func TestNumbers(t *testing.T) {
	numbers := []uint64{0, 1, 2, 3, 4, 5, 129, 130, mostObjects, mostObjects + 1, mostPast, mostPast + 1, mostBytes, mostBytes + 1, mostRev - 1, mostRev, mostRev + 1, 1 << 62, 1<<63 - 1, 1 << 63, 1<<63 + 1, 1<<64 - 1}
	for _, b := range someImages(t) {
		for i := 8; i+8 <= len(b); i++ {
			for _, n := range numbers {
				x := slices.Clone(b)
				copy(x[i:], num(n))
				checkOpen(t, x)
			}
		}
		for _, rev := range numbers {
			for _, floor := range numbers {
				x := slices.Clone(b)
				copy(x[8:], num(rev))
				copy(x[16:], num(floor))
				checkOpen(t, x)
			}
		}
	}
}

// TestWhichImages: images that may be and those that just may not.
func TestWhichImages(t *testing.T) {
	k129, k130 := strings.Repeat("k", 129), strings.Repeat("k", 130)
	most := strings.Repeat("d", mostBytes)
	for _, c := range []struct {
		what string
		b    string
		good bool
	}{
		{"nothing", image(0, 0, 0), true},
		{"nothing, the counter at its end", image(mostRev, mostRev, 0), true},
		{"the counter past its end", image(mostRev+1, mostRev+1, 0), false},
		{"the counter past its end, the floor not", image(mostRev+1, mostRev, 0, did(1, "a", "")), false},
		{"the floor above the counter", image(4, 5, 0), false},
		{"no letters", strings.Repeat("\x00", 32), false},
		{"other letters", "freeholD" + strings.Repeat("\x00", 24), false},
		{"letters alone", "freehold", false},
		{"two objects", image(2, 2, 2, thing("a", 2, ""), thing("b", 1, "x")), true},
		{"keys that fall", image(2, 2, 2, thing("b", 1, ""), thing("a", 2, "")), false},
		{"a key twice", image(2, 2, 2, thing("a", 1, ""), thing("a", 2, "")), false},
		{"a revision twice", image(2, 2, 2, thing("a", 2, ""), thing("b", 2, "")), false},
		{"a revision twice, apart", image(9, 9, 3, thing("a", 2, ""), thing("b", 3, ""), thing("c", 2, "")), false},
		{"the revision 0", image(2, 2, 1, thing("a", 0, "")), false},
		{"the floor's revision", image(2, 2, 1, thing("a", 2, "")), true},
		{"a revision above the floor", image(3, 2, 1, thing("a", 3, ""), did(2, "a", "")), false},
		{"an object at the floor 0", image(0, 0, 1, thing("a", 0, "")), false},
		{"more objects than are told", image(2, 2, 1, thing("a", 1, ""), thing("b", 2, "")), false},
		{"fewer objects than are told", image(2, 2, 2, thing("a", 1, "")), false},
		{"an empty key", image(2, 2, 1, thing("", 1, "")), false},
		{"a long key", image(2, 2, 1, thing(k129, 1, "")), true},
		{"too long a key", image(2, 2, 1, thing(k130, 1, "")), false},
		{"many bytes", image(2, 2, 1, thing("a", 1, most)), true},
		{"too many bytes", image(2, 2, 1, thing("a", 1, most+"d")), false},
		{"a long key created", image(3, 2, 0, did(1, k129, "")), true},
		{"too long a key created", image(3, 2, 0, did(1, k130, "")), false},
		{"an empty key created", image(3, 2, 0, did(1, "", "")), false},
		{"created with many bytes", image(3, 2, 0, did(1, "a", most)), true},
		{"created with too many bytes", image(3, 2, 0, did(1, "a", most+"d")), false},
		{"swapped to many bytes", image(3, 2, 1, thing("a", 1, ""), did(2, "a", most)), true},
		{"swapped to too many bytes", image(3, 2, 1, thing("a", 1, ""), did(2, "a", most+"d")), false},
		{"created, and there", image(3, 2, 1, thing("a", 1, ""), did(1, "a", "")), false},
		{"created twice", image(4, 2, 0, did(1, "a", ""), did(1, "a", "")), false},
		{"created, removed, created", image(5, 2, 0, did(1, "a", ""), did(3, "a"), did(1, "a", "")), true},
		{"swapped, and not there", image(3, 2, 1, thing("a", 1, ""), did(2, "b", "")), false},
		{"swapped behind its removal", image(4, 2, 1, thing("a", 1, ""), did(3, "a"), did(2, "a", "")), false},
		{"removed, and not there", image(3, 2, 1, thing("a", 1, ""), did(3, "b")), false},
		{"removed twice", image(4, 2, 1, thing("a", 1, ""), did(3, "a"), did(3, "a")), false},
		{"removed with bytes", image(3, 2, 1, thing("a", 1, "x"), did(3, "a", "x")), false},
		{"an event of the kind 0", image(3, 2, 0, did(0, "a", "")), false},
		{"an event of the kind 4", image(3, 2, 1, thing("a", 1, ""), did(4, "a", "")), false},
		{"an event of the kind 4 without bytes", image(3, 2, 1, thing("a", 1, ""), did(4, "a")), false},
		{"an event of the kind 257", image(3, 2, 0, did(257, "a", "")), false},
		{"no event, and then one", image(3, 2, 0, did(0, "a", ""), did(1, "a", "")), false},
		{"no event either, and then one", image(3, 2, 1, thing("a", 1, ""), did(4, "a", ""), did(2, "a", "")), false},
		{"one that can't be, and then one that can", image(3, 2, 1, thing("a", 1, ""), did(1, "a", ""), did(2, "a", "")), false},
		{"one that can, and then one that can't be", image(4, 2, 0, did(1, "a", ""), did(2, "b", "")), false},
		{"an event too many", image(3, 2, 0, did(1, "a", ""), did(1, "b", "")), false},
		{"an event too few", image(4, 2, 0, did(1, "a", "")), false},
		{"the last write", image(mostRev, mostRev-1, 0, did(1, "a", "")), true},
	} {
		if checkOpen(t, []byte(c.b)) != c.good {
			t.Errorf("P19.9: the second reading of %s: not %v", c.what, c.good)
		}
	}
}

// TestPickedImages: images put together of parts that may fit or not.
func TestPickedImages(t *testing.T) {
	r := rand.New(rand.NewSource(9))
	keys := []string{"a", "b", "c", "d"}
	good := 0
	for range 200000 {
		floor := uint64(r.Intn(4))
		var parts []string
		count := r.Intn(3)
		for i := range count {
			key := keys[i]
			if r.Intn(8) == 0 {
				key = keys[r.Intn(4)]
			}
			parts = append(parts, thing(key, uint64(r.Intn(4)), keys[r.Intn(4)]))
		}
		happened := r.Intn(5)
		for range happened {
			if kind := uint64(r.Intn(3) + 1); kind == 3 {
				parts = append(parts, did(3, keys[r.Intn(3)]))
			} else {
				parts = append(parts, did(kind, keys[r.Intn(3)], keys[r.Intn(4)]))
			}
		}
		if checkOpen(t, []byte(image(floor+uint64(happened), floor, uint64(count), parts...))) {
			good++
		}
	}
	if good < 20000 || good > 180000 {
		t.Errorf("%d of those were images", good)
	}
}

// TestImageBounds: as many objects and events as an image may have, and one more.
func TestImageBounds(t *testing.T) {
	var things []string
	for i := range mostObjects + 1 {
		things = append(things, thing(fmt.Sprintf("k%04d", i), uint64(i+1), ""))
	}
	full := strings.Join(things[:mostObjects], "")
	swaps := func(n int) string { return strings.Repeat(did(2, "k0000", ""), n) }
	for _, c := range []struct {
		what string
		b    string
		e    api.Errno
	}{
		{"most objects", image(9999, 9999, mostObjects, full), api.OK},
		{"one object more", image(9999, 9999, mostObjects+1, full, things[mostObjects]), api.ErrImage},
		{"most objects and one created", image(10000, 9999, mostObjects, full, did(1, "x", "")), api.ErrImage},
		{"most objects, one removed and one created", image(10001, 9999, mostObjects, full, did(3, "k0000"), did(1, "x", "")), api.OK},
		{"most objects for a while", image(10000, 9999, mostObjects-1, strings.Join(things[:mostObjects-1], ""), did(1, "x", "")), api.OK},
		{"more objects for a while", image(10002, 9999, mostObjects-1, strings.Join(things[:mostObjects-1], ""), did(1, "x", ""), did(1, "y", ""), did(3, "x")), api.ErrImage},
		{"most events", image(5+mostPast, 5, 1, things[0], swaps(mostPast)), api.OK},
		{"one event more", image(6+mostPast, 5, 1, things[0], swaps(mostPast+1)), api.ErrImage},
		{"most events to the last revision", image(mostRev, mostRev-mostPast, 1, things[0], swaps(mostPast)), api.OK},
		{"more events than were told", image(4+mostPast, 5, 1, things[0], swaps(mostPast)), api.ErrImage},
	} {
		s, e := Open([]byte(c.b))
		if e != c.e || (s == nil) != (e != api.OK) {
			t.Errorf("P19.9: Open of %s = %d, want %d", c.what, e, c.e)
			continue
		}
		if e == api.OK && string(s.Bytes()) != c.b {
			t.Errorf("P19.9: Bytes of %s: others", c.what)
		}
	}
}

// TestGoesOn: a store that was opened goes on as the one whose bytes it was.
func TestGoesOn(t *testing.T) {
	for _, b := range someImages(t) {
		s, e := Open(b)
		if e != api.OK {
			t.Fatalf("P19.11: Open = %d", e)
		}
		w := &twins{t: t, l: []*Store{s}, m: opened(b), at: fmt.Sprintf("Open(%q)", b)}
		w.reopen()
		for _, key := range someKeys[:6] {
			w.create(key, []byte{1})
			w.swap(key, w.now(key), []byte{2})
			w.remove(key, w.now(key))
			w.create(key, []byte{3})
			w.reopen()
		}
		w.all(someKeys...)
		w.compact(w.m.rev() - 3)
		w.all(someKeys...)
	}
}
