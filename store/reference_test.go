package store

import (
	"bytes"
	"encoding/binary"
	"fmt"
	"reflect"
	"slices"
	"strings"
	"testing"

	"freehold/api"
)

// The chapter's numbers, as it says them.
const (
	mostKey     = 129
	mostBytes   = 131072
	mostObjects = 4096
	mostPast    = 65536
	mostRev     = 9007199254740991
)

// second is a second reading of the chapter: it keeps what stood at the beginning and every write since, and works each answer out from these anew.
type second struct {
	start, floor int
	first        []api.Item
	log          []api.Event
}

func (m *second) rev() int { return m.start + len(m.log) }

// state is the objects as of a revision: of each key what the last one of its writes left.
func (m *second) state(rev int) []api.Item {
	var l []api.Item
	met := map[string]bool{}
	for i := rev - m.start - 1; i >= 0; i-- {
		x := m.log[i]
		if !met[x.Key] && x.Kind != api.Removed {
			l = append(l, api.Item{Key: x.Key, Rev: x.Rev, Data: x.Data})
		}
		met[x.Key] = true
	}
	for _, x := range m.first {
		if !met[x.Key] {
			l = append(l, x)
		}
	}
	slices.SortFunc(l, func(a, b api.Item) int { return bytes.Compare([]byte(a.Key), []byte(b.Key)) })
	return l
}

// has is the object of a key that stands now.
func (m *second) has(key string) (api.Item, bool) {
	for _, x := range m.state(m.rev()) {
		if x.Key == key {
			return x, true
		}
	}
	return api.Item{}, false
}

// worst is, of what is wrong, what the chapter names first.
func worst(wrong map[api.Errno]bool) api.Errno {
	for _, e := range []api.Errno{1, 2, 151, 190, 191, 192, 193, 194, 195, 196, 197} {
		if wrong[e] {
			return e
		}
	}
	return 0
}

func noKey(key string) bool { return key == "" || len(key) > mostKey }

// happens puts a write into the log, if nothing is wrong with it.
func (m *second) happens(kind int, key string, data []byte, wrong map[api.Errno]bool) (int, api.Errno) {
	wrong[api.ErrWorn] = m.rev() == mostRev
	if e := worst(wrong); e != 0 {
		return 0, e
	}
	m.log = append(m.log, api.Event{Rev: m.rev() + 1, Kind: kind, Key: key, Data: bytes.Clone(data)})
	m.floor = max(m.floor, m.rev()-mostPast)
	return m.rev(), 0
}

func (m *second) get(key string) ([]byte, int, api.Errno) {
	x, there := m.has(key)
	return x.Data, x.Rev, worst(map[api.Errno]bool{api.ErrArg: noKey(key), api.ErrMissing: !there})
}

func (m *second) create(key string, data []byte) (int, api.Errno) {
	_, there := m.has(key)
	return m.happens(1, key, data, map[api.Errno]bool{api.ErrArg: noKey(key), api.ErrObject: len(data) > mostBytes, api.ErrExists: there, api.ErrFull: len(m.state(m.rev())) >= mostObjects})
}

func (m *second) swap(key string, rev int, data []byte) (int, api.Errno) {
	x, there := m.has(key)
	return m.happens(2, key, data, map[api.Errno]bool{api.ErrArg: noKey(key), api.ErrObject: len(data) > mostBytes, api.ErrMissing: !there, api.ErrStale: x.Rev != rev})
}

func (m *second) remove(key string, rev int) (int, api.Errno) {
	x, there := m.has(key)
	return m.happens(3, key, x.Data, map[api.Errno]bool{api.ErrArg: noKey(key), api.ErrMissing: !there, api.ErrStale: x.Rev != rev})
}

// unasked is what is wrong with a question about the past.
func (m *second) unasked(rev, most int) api.Errno {
	return worst(map[api.Errno]bool{api.ErrArg: rev < 0 || most < 0, api.ErrExpired: rev < m.floor, api.ErrFuture: rev > m.rev()})
}

func (m *second) list(rev int, prefix, from string, most int) ([]api.Item, api.Errno) {
	if e := m.unasked(rev, most); e != 0 {
		return nil, e
	}
	var l []api.Item
	for _, x := range m.state(rev) {
		if strings.Index(x.Key, prefix) == 0 && strings.Compare(from, x.Key) < 1 && len(l) < most {
			l = append(l, x)
		}
	}
	return l, 0
}

func (m *second) events(after, most int) ([]api.Event, api.Errno) {
	if e := m.unasked(after, most); e != 0 {
		return nil, e
	}
	var l []api.Event
	for _, x := range m.log {
		if x.Rev > after && len(l) < most {
			l = append(l, x)
		}
	}
	return l, 0
}

func (m *second) compact(rev int) api.Errno {
	e := worst(map[api.Errno]bool{api.ErrArg: rev < 0, api.ErrFuture: rev > m.rev()})
	if e == 0 && m.floor < rev {
		m.floor = rev
	}
	return e
}

// num is a number as an image has it.
func num(n uint64) string { return string(binary.BigEndian.AppendUint64(nil, n)) }

// long is a text with its length ahead of it.
func long(s string) string { return num(uint64(len(s))) + s }

// thing is an object of an image.
func thing(key string, rev uint64, data string) string { return long(key) + num(rev) + long(data) }

// did is an event of an image; of a removal there are no data.
func did(kind uint64, key string, data ...string) string {
	s := num(kind) + long(key)
	for _, x := range data {
		s += long(x)
	}
	return s
}

// image is an image of parts.
func image(rev, floor, count uint64, parts ...string) string {
	return "freehold" + num(rev) + num(floor) + num(count) + strings.Join(parts, "")
}

func (m *second) image() string {
	var parts []string
	l := m.state(m.floor)
	for _, x := range l {
		parts = append(parts, thing(x.Key, uint64(x.Rev), string(x.Data)))
	}
	for _, x := range m.log[m.floor-m.start:] {
		if x.Kind == api.Removed {
			parts = append(parts, did(3, x.Key))
		} else {
			parts = append(parts, did(uint64(x.Kind), x.Key, string(x.Data)))
		}
	}
	return image(uint64(m.rev()), uint64(m.floor), uint64(len(l)), parts...)
}

// told is what an image's shape says, before anything is asked of it.
type told struct {
	rev, floor uint64
	first      []item
	events     []item
}

type item struct {
	number    uint64 // a revision, or an event's kind
	key, data string
}

// shape cuts an image; false, if it ends too early or too late, or does not begin as one.
func shape(b []byte) (t told, good bool) {
	defer func() {
		if recover() != nil {
			t, good = told{}, false
		}
	}()
	number := func() uint64 {
		n := binary.BigEndian.Uint64(b[:8])
		b = b[8:]
		return n
	}
	text := func() string {
		n := number()
		s := string(b[:n])
		b = b[n:]
		return s
	}
	good = string(b[:8]) == "freehold"
	b = b[8:]
	t.rev, t.floor = number(), number()
	for n := number(); n > 0; n-- {
		key := text()
		t.first = append(t.first, item{key: key, number: number(), data: text()})
	}
	for i := t.floor; i < t.rev; i++ {
		x := item{number: number(), key: text()}
		if x.number != 3 {
			x.data = text()
		}
		t.events = append(t.events, x)
	}
	return t, good && len(b) == 0
}

// opened is the second reading of an image; nil, if it is none.
func opened(b []byte) *second {
	t, good := shape(b)
	if !good || t.rev > mostRev || t.floor > t.rev || len(t.events) > mostPast || len(t.first) > mostObjects {
		return nil
	}
	m := &second{start: int(t.floor), floor: int(t.floor)}
	for i, x := range t.first {
		if noKey(x.key) || len(x.data) > mostBytes || x.number < 1 || x.number > t.floor {
			return nil
		}
		for _, y := range t.first[:i] {
			if y.key >= x.key || y.number == x.number {
				return nil
			}
		}
		m.first = append(m.first, api.Item{Key: x.key, Rev: int(x.number), Data: []byte(x.data)})
	}
	for _, x := range t.events {
		stands, there := m.has(x.key)
		e := api.ErrImage
		switch x.number {
		case 1:
			_, e = m.create(x.key, []byte(x.data))
		case 2:
			_, e = m.swap(x.key, stands.Rev, []byte(x.data))
		case 3:
			_, e = m.remove(x.key, stands.Rev)
		}
		if e != 0 || (x.number == 1) == there {
			return nil
		}
	}
	return m
}

// tell is anything as a person reads it, nil and empty lists alike.
func tell(x any) string {
	v := reflect.ValueOf(x)
	if v.Kind() == reflect.Slice && v.Len() == 0 {
		return "none"
	}
	return fmt.Sprintf("%v", x)
}

// twins are stores that must answer alike, and the second reading of what they are.
type twins struct {
	t  *testing.T
	l  []*Store
	m  *second
	at string // what was done so far
}

func begin(t *testing.T, at int) *twins {
	t.Helper()
	s, e := New(at)
	if e != api.OK || s == nil {
		t.Fatalf("P19.1: New(%d) = %v, %d", at, s, e)
	}
	return &twins{t: t, l: []*Store{s}, m: &second{start: at, floor: at}, at: fmt.Sprintf("New(%d)", at)}
}

// ask has each of the stores answer, and holds it against the second reading.
func (w *twins) ask(promise, what string, ask func(s *Store) string, want string) {
	w.t.Helper()
	for i, s := range w.l {
		if got := ask(s); got != want {
			w.t.Fatalf("%s: %s of the store %d = %s, want %s, behind %s", promise, what, i, got, want, w.at)
		}
	}
}

// do is a call that may change something: with an error nothing changes.
func (w *twins) do(promise, what string, do func(s *Store) (int, api.Errno), n int, e api.Errno) int {
	w.t.Helper()
	w.ask(promise, what, func(s *Store) string {
		was := s.Bytes()
		n, e := do(s)
		if e != api.OK && !bytes.Equal(was, s.Bytes()) {
			return "the store changed"
		}
		return fmt.Sprint(n, e)
	}, fmt.Sprint(n, e))
	if len(w.at) < 2000 {
		w.at += ", " + what
	}
	return n
}

func (w *twins) create(key string, data []byte) int {
	w.t.Helper()
	n, e := w.m.create(key, data)
	return w.do("P19.3", fmt.Sprintf("Create(%.9q, %.9q)", key, data), func(s *Store) (int, api.Errno) { return s.Create(key, data) }, n, e)
}

func (w *twins) swap(key string, rev int, data []byte) int {
	w.t.Helper()
	n, e := w.m.swap(key, rev, data)
	return w.do("P19.4", fmt.Sprintf("Swap(%.9q, %d, %.9q)", key, rev, data), func(s *Store) (int, api.Errno) { return s.Swap(key, rev, data) }, n, e)
}

func (w *twins) remove(key string, rev int) int {
	w.t.Helper()
	n, e := w.m.remove(key, rev)
	return w.do("P19.4", fmt.Sprintf("Remove(%.9q, %d)", key, rev), func(s *Store) (int, api.Errno) { return s.Remove(key, rev) }, n, e)
}

func (w *twins) compact(rev int) {
	w.t.Helper()
	e := w.m.compact(rev)
	w.do("P19.7", fmt.Sprintf("Compact(%d)", rev), func(s *Store) (int, api.Errno) { return 0, s.Compact(rev) }, 0, e)
}

func (w *twins) get(key string) {
	w.t.Helper()
	b, n, e := w.m.get(key)
	w.ask("P19.2", fmt.Sprintf("Get(%.9q)", key), func(s *Store) string {
		b, n, e := s.Get(key)
		return fmt.Sprint(tell(b), n, e)
	}, fmt.Sprint(tell(b), n, e))
}

func (w *twins) list(rev int, prefix, from string, most int) {
	w.t.Helper()
	l, e := w.m.list(rev, prefix, from, most)
	w.ask("P19.5", fmt.Sprintf("List(%d, %q, %q, %d)", rev, prefix, from, most), func(s *Store) string {
		l, e := s.List(rev, prefix, from, most)
		return fmt.Sprint(tell(l), e)
	}, fmt.Sprint(tell(l), e))
}

func (w *twins) events(after, most int) {
	w.t.Helper()
	l, e := w.m.events(after, most)
	w.ask("P19.6", fmt.Sprintf("Events(%d, %d)", after, most), func(s *Store) string {
		l, e := s.Events(after, most)
		return fmt.Sprint(tell(l), e)
	}, fmt.Sprint(tell(l), e))
}

// numbers holds the counter, the floor, the objects' number and the image.
func (w *twins) numbers() {
	w.t.Helper()
	w.ask("P19.1", "Rev, Floor, Len", func(s *Store) string { return fmt.Sprint(s.Rev(), s.Floor(), s.Len()) }, fmt.Sprint(w.m.rev(), w.m.floor, len(w.m.state(w.m.rev()))))
	w.ask("P19.8", "Bytes", func(s *Store) string { return string(s.Bytes()) }, w.m.image())
}

// all asks for all that the stores can tell of some keys.
func (w *twins) all(keys ...string) {
	w.t.Helper()
	w.numbers()
	for _, key := range keys {
		w.get(key)
	}
	for rev := w.m.floor - 1; rev <= w.m.rev()+1; rev++ {
		w.list(rev, "", "", 9)
		w.events(rev, 9)
		for most := range 3 {
			w.list(rev, "", "", most)
			w.events(rev, most)
		}
		for _, key := range keys {
			w.list(rev, key, "", 9)
			w.list(rev, "", key, 9)
		}
	}
}

// reopen puts a store beside the others that was opened from the first one's bytes.
func (w *twins) reopen() {
	w.t.Helper()
	s, e := Open(w.l[0].Bytes())
	if e != api.OK {
		w.t.Fatalf("P19.11: Open of the store's bytes = %d, behind %s", e, w.at)
	}
	w.l = append(w.l, s)
}

// checkOpen holds Open of some bytes against the second reading; it tells whether they are an image.
func checkOpen(t *testing.T, b []byte) bool {
	t.Helper()
	was := bytes.Clone(b)
	s, e := Open(b)
	if !bytes.Equal(was, b) {
		t.Fatalf("P19.12: Open changed %q", was)
	}
	m := opened(b)
	if m == nil {
		if s != nil || e != api.ErrImage {
			t.Fatalf("P19.9: Open of %.400q, which is no image, = %v, %d", b, s, e)
		}
		return false
	}
	if s == nil || e != api.OK {
		t.Fatalf("P19.9: Open of the image %.400q = %v, %d", b, s, e)
	}
	if !bytes.Equal(s.Bytes(), b) {
		t.Fatalf("P19.9: Bytes of what was opened = %.400q, want %.400q", s.Bytes(), b)
	}
	w := &twins{t: t, l: []*Store{s}, m: m, at: fmt.Sprintf("Open(%.400q)", b)}
	w.numbers()
	return true
}
