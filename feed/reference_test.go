package feed

import (
	"bytes"
	stdjson "encoding/json"
	"fmt"
	"math/rand"
	"reflect"
	"regexp"
	"slices"
	"sort"
	"strconv"
	"strings"
	"testing"
	"unicode/utf8"

	"freehold/api"
	"freehold/record"
	"freehold/selector"
	"freehold/store"
)

// What the tests hold the package against, written from the words of the chapter in other ways than the package's own: a token is cut by a regular expression, what stood at a moment is worked out anew from all the writes that there ever were, and what fits from the sums of all that could be told.

// The chapter's numbers, as it says them.
const (
	mostBytes = 131072
	mostPage  = 500
	mostText  = 1048576
	mostRev   = 9007199254740991
)

func pickOf[T any](r *rand.Rand, l ...T) T { return l[r.Intn(len(l))] }

// cut is a thing as a test tells it.
func cut(x any) string {
	s := tell(reflect.ValueOf(x))
	if len(s) > 1500 {
		return fmt.Sprintf("%s .. (%d bytes)", s[:300], len(s))
	}
	return s
}

// tell is a thing as a text.
func tell(v reflect.Value) string {
	var parts []string
	switch v.Kind() {
	case reflect.String:
		return strconv.Quote(v.String())
	case reflect.Slice:
		if v.Type().Elem().Kind() == reflect.Uint8 {
			return strconv.Quote(string(v.Bytes()))
		}
		for i := range v.Len() {
			parts = append(parts, tell(v.Index(i)))
		}
		return "[" + strings.Join(parts, " ") + "]"
	case reflect.Struct:
		for i := range v.NumField() {
			parts = append(parts, tell(v.Field(i)))
		}
		return "{" + strings.Join(parts, " ") + "}"
	}
	return fmt.Sprint(v)
}

// same tells whether two things of package api are the same, where nil and empty lists are.
func same(a, b any) bool { return sameOf(reflect.ValueOf(a), reflect.ValueOf(b)) }

func sameOf(a, b reflect.Value) bool {
	switch a.Kind() {
	case reflect.Slice:
		if a.Type().Elem().Kind() == reflect.Uint8 {
			return bytes.Equal(a.Bytes(), b.Bytes())
		}
		if a.Len() != b.Len() {
			return false
		}
		for i := range a.Len() {
			if !sameOf(a.Index(i), b.Index(i)) {
				return false
			}
		}
		return true
	case reflect.Struct:
		for i := range a.NumField() {
			if !sameOf(a.Field(i), b.Field(i)) {
				return false
			}
		}
		return true
	}
	return a.Equal(b)
}

// rec is a record whose value has some labels, told as JSON, and padding till it has so many bytes; with fewer than it needs there is no padding.
func rec(labels string, size int) []byte {
	const head, pad, tail = `{"owners":[],"value":{"labels":`, `,"pad":"`, `}}`
	if need := len(head + labels + pad + `"` + tail); size >= need {
		return []byte(head + labels + pad + strings.Repeat("p", size-need) + `"` + tail)
	}
	return []byte(head + labels + tail)
}

// marked is a record with a label t.
func marked(s string) []byte { return rec(`{"t":"`+s+`"}`, 0) }

// canon is the canonical text of a selector.
func canon(sel string) (string, bool) {
	l, _, e := selector.Parse(sel)
	if e != api.OK {
		return "", false
	}
	s, _ := selector.Print(l)
	return s, true
}

// known is the labels of bytes that were read before.
var known = map[string][]api.Member{}

func labelsOf(data []byte) []api.Member {
	l, is := known[string(data)]
	if !is {
		l = readLabels(data)
		known[string(data)] = l
	}
	return l
}

// readLabels is the labels of a record, read by the library.
func readLabels(data []byte) []api.Member {
	if _, e := record.Decode(data); e != api.OK {
		return nil
	}
	var whole map[string]any
	if stdjson.Unmarshal(data, &whole) != nil {
		return nil
	}
	v, _ := whole["value"].(map[string]any)
	under, _ := v["labels"].(map[string]any)
	var l []api.Member
	for key, x := range under {
		if s, is := x.(string); is {
			l = append(l, api.Member{Key: key, Val: api.Value{Kind: api.Str, Str: s}})
		}
	}
	return l
}

func ofKind(key, kind string) bool {
	return kind == "" || len(key) > len(kind) && key[:len(kind)] == kind && key[len(kind)] == '/'
}

func chosen(kind, sel, key string, data []byte) bool {
	l, _, _ := selector.Parse(sel)
	return ofKind(key, kind) && selector.Match(l, labelsOf(data))
}

// quoted is a text string as chapter 1 writes it.
func quoted(s string) string {
	var pairs []string
	for c := range 32 {
		pairs = append(pairs, string(rune(c)), fmt.Sprintf(`\u%04x`, c))
	}
	for c, l := range map[string]string{"\b": `\b`, "\t": `\t`, "\n": `\n`, "\f": `\f`, "\r": `\r`} {
		pairs[slices.Index(pairs, c)+1] = l
	}
	return `"` + strings.NewReplacer(append(pairs, `"`, `\"`, `\`, `\\`)...).Replace(s) + `"`
}

func wantToken(rev int, kind, sel, after string) (string, api.Errno) {
	text, is := canon(sel)
	if !is {
		return "", api.ErrSelector
	}
	s := `{"after":` + quoted(after) + `,"kind":` + quoted(kind) + `,"rev":` + strconv.Itoa(rev) + `,"selector":` + quoted(text) + `}`
	if rev < 0 || rev > mostRev || !utf8.ValidString(s) || len(s) > mostText {
		return "", api.ErrToken
	}
	return s, api.OK
}

var oneToken = func() *regexp.Regexp {
	const str = `("(?:[^"\\\x00-\x1f]|\\["\\bfnrt]|\\u00(?:0[0-7bef]|1[0-9a-f]))*")`
	return regexp.MustCompile(`^\{"after":` + str + `,"kind":` + str + `,"rev":(0|[1-9][0-9]{0,15}),"selector":` + str + `\}$`)
}()

// token is what a token says.
type token struct {
	rev              int
	kind, sel, after string
}

func wantReadToken(s string) (token, api.Errno) {
	var x token
	if len(s) > mostText || !utf8.ValidString(s) {
		return token{}, api.ErrToken
	}
	m := oneToken.FindStringSubmatch(s)
	if m == nil {
		return token{}, api.ErrToken
	}
	for i, to := range []any{nil, &x.after, &x.kind, &x.rev, &x.sel} {
		if i > 0 && stdjson.Unmarshal([]byte(m[i]), to) != nil {
			return token{}, api.ErrToken
		}
	}
	if text, is := canon(x.sel); !is || text != x.sel || x.rev > mostRev {
		return token{}, api.ErrToken
	}
	return x, api.OK
}

// checkToken holds Token, and what is read of its answer.
func checkToken(t *testing.T, rev int, kind, sel, after string) (string, api.Errno) {
	t.Helper()
	s, e := Token(rev, kind, sel, after)
	want, f := wantToken(rev, kind, sel, after)
	if s != want || e != f {
		t.Fatalf("P21.1: Token(%d, %s, %s, %s) = %s, %d, want %s, %d", rev, cut(kind), cut(sel), cut(after), cut(s), e, cut(want), f)
	}
	if e == api.OK {
		x, e := checkRead(t, s)
		text, _ := canon(sel)
		if e != api.OK || x != (token{rev, kind, text, after}) {
			t.Fatalf("P21.1: ReadToken(%s) = %s, %d", cut(s), cut(x), e)
		}
	}
	return s, e
}

// checkRead holds ReadToken, and that there is no other token of what it reads.
func checkRead(t *testing.T, s string) (token, api.Errno) {
	t.Helper()
	var x token
	var e api.Errno
	x.rev, x.kind, x.sel, x.after, e = ReadToken(s)
	want, f := wantReadToken(s)
	if x != want || e != f {
		t.Fatalf("P21.1: ReadToken(%s) = %s, %d, want %s, %d", cut(s), cut(x), e, cut(want), f)
	}
	if e == api.OK {
		if back, e := Token(x.rev, x.kind, x.sel, x.after); back != s || e != api.OK {
			t.Fatalf("P21.1: of what %s says the token is %s, %d", cut(s), cut(back), e)
		}
	}
	return x, e
}

// world is a store, and all that was ever written to it.
type world struct {
	t     *testing.T
	st    *store.Store
	start int
	log   []api.Event
	long  bool // it gets long records, too
}

func newWorld(t *testing.T, at int) *world {
	t.Helper()
	st, e := store.New(at)
	if e != api.OK {
		t.Fatal(e)
	}
	return &world{t: t, st: st, start: at}
}

// put writes bytes under a key, whether it is there or not.
func (w *world) put(key string, data []byte) {
	w.t.Helper()
	_, rev, e := w.st.Get(key)
	kind := api.Swapped
	if e == api.ErrMissing {
		kind = api.Created
		rev, e = w.st.Create(key, data)
	} else {
		rev, e = w.st.Swap(key, rev, data)
	}
	w.wrote(e, api.Event{Rev: rev, Kind: kind, Key: key, Data: slices.Clone(data)})
}

func (w *world) remove(key string) {
	w.t.Helper()
	data, rev, _ := w.st.Get(key)
	rev, e := w.st.Remove(key, rev)
	w.wrote(e, api.Event{Rev: rev, Kind: api.Removed, Key: key, Data: data})
}

func (w *world) wrote(e api.Errno, x api.Event) {
	w.t.Helper()
	if e != api.OK || x.Rev != w.start+len(w.log)+1 {
		w.t.Fatalf("a write of %q: %d, %d", x.Key, x.Rev, e)
	}
	w.log = append(w.log, x)
}

func (w *world) rev() int { return w.start + len(w.log) }

// state is what stood at a revision and is in a choice, by rising keys: of each key what the last one of its writes left.
func (w *world) state(rev int, kind, sel string) []api.Item {
	var l []api.Item
	met := map[string]bool{}
	for i := rev - w.start - 1; i >= 0; i-- {
		x := w.log[i]
		if !met[x.Key] && x.Kind != api.Removed && chosen(kind, sel, x.Key, x.Data) {
			l = append(l, api.Item{Key: x.Key, Rev: x.Rev, Data: x.Data})
		}
		met[x.Key] = true
	}
	sort.Slice(l, func(i, k int) bool { return l[i].Key < l[k].Key })
	return l
}

// fits is how many of some rows of bytes fit: the most of those numbers of them whose bytes are few enough.
func fits(sizes []int, limit int) int {
	most, sum := 0, 0
	for i, n := range sizes {
		if sum += n; i < limit && (i == 0 || sum <= mostBytes) {
			most = i + 1
		}
	}
	return most
}

// asked is what is wrong with a revision that is asked for.
func (w *world) asked(rev int) api.Errno {
	switch {
	case rev < 0:
		return api.ErrArg
	case rev < w.st.Floor():
		return api.ErrExpired
	case rev > w.rev():
		return api.ErrFuture
	}
	return api.OK
}

// page is what Page answers.
type page struct {
	L    []api.Item
	Rev  int
	Next string
	E    api.Errno
}

func (w *world) page(kind, sel string, limit int, s string) page {
	text, is := canon(sel)
	if !is {
		return page{E: api.ErrSelector}
	}
	if limit < 1 || limit > mostPage {
		return page{E: api.ErrArg}
	}
	x := token{rev: w.rev(), kind: kind, sel: text}
	if s != "" {
		var e api.Errno
		if x, e = wantReadToken(s); e != api.OK || x.kind != kind || x.sel != text {
			return page{E: api.ErrToken}
		}
		if e := w.asked(x.rev); e != api.OK {
			return page{E: e}
		}
	}
	var l []api.Item
	var sizes []int
	for _, y := range w.state(x.rev, kind, sel) {
		if s == "" || y.Key > x.after {
			l, sizes = append(l, y), append(sizes, len(y.Data))
		}
	}
	p := page{L: l[:fits(sizes, limit)], Rev: x.rev}
	if len(p.L) < len(l) {
		next, e := wantToken(x.rev, kind, sel, p.L[len(p.L)-1].Key)
		if p.Next = next; e != api.OK {
			return page{E: api.ErrToken}
		}
	}
	return p
}

// checkPage holds Page against the second reading.
func (w *world) checkPage(kind, sel string, limit int, s string) page {
	w.t.Helper()
	var p page
	p.L, p.Rev, p.Next, p.E = Page(w.st, kind, sel, limit, s)
	if want := w.page(kind, sel, limit, s); !same(p, want) {
		w.t.Fatalf("P21.2: Page(%s, %s, %d, %s) = %s, want %s", cut(kind), cut(sel), limit, cut(s), cut(p), cut(want))
	}
	return p
}

// told is what Events answers.
type told struct {
	L  []api.Event
	On int
	E  api.Errno
}

func (w *world) events(kind string, after, limit int) told {
	if limit < 1 || limit > mostPage {
		return told{E: api.ErrArg}
	}
	if e := w.asked(after); e != api.OK {
		return told{E: e}
	}
	var l []api.Event
	var sizes []int
	for _, x := range w.log {
		if x.Rev > after && ofKind(x.Key, kind) {
			l, sizes = append(l, x), append(sizes, len(x.Data))
		}
	}
	x := told{L: l[:fits(sizes, limit)], On: w.rev()}
	if len(x.L) < len(l) {
		x.On = x.L[len(x.L)-1].Rev
	}
	return x
}

// checkEvents holds Events against the second reading.
func (w *world) checkEvents(kind string, after, limit int) told {
	w.t.Helper()
	var x told
	x.L, x.On, x.E = Events(w.st, kind, after, limit)
	if want := w.events(kind, after, limit); !same(x, want) {
		w.t.Fatalf("P21.3: Events(%s, %d, %d) = %s, want %s", cut(kind), after, limit, cut(x), cut(want))
	}
	return x
}

// isStanding tells whether items may be loaded.
func isStanding(l []api.Item, rev int) bool {
	keys := []string{}
	for _, x := range l {
		if x.Rev <= 0 || rev < x.Rev {
			return false
		}
		keys = append(keys, x.Key)
	}
	once := slices.Compact(slices.Sorted(slices.Values(keys)))
	return slices.Equal(once, keys) && 0 <= rev && rev <= mostRev
}

// isNext tells whether an event may be taken at a revision.
func isNext(e api.Event, rev int) bool {
	return slices.Contains([]int{1, 2, 3}, e.Kind) && rev < e.Rev && e.Rev <= mostRev
}

// both is a filter, and what it must hold.
type both struct {
	t         *testing.T
	f         *Filter
	kind, sel string
	rev       int
	held      []api.Item
}

func newBoth(t *testing.T, kind, sel string) *both {
	t.Helper()
	f, e := NewFilter(kind, sel)
	if e != api.OK || f == nil {
		t.Fatalf("P21.4: NewFilter(%s, %s) = %v, %d", cut(kind), cut(sel), f, e)
	}
	return &both{t: t, f: f, kind: kind, sel: sel}
}

func (b *both) load(l []api.Item, rev int) api.Errno {
	b.t.Helper()
	want := api.ErrArg
	if isStanding(l, rev) {
		want, b.rev, b.held = api.OK, rev, nil
		for _, x := range l {
			if chosen(b.kind, b.sel, x.Key, x.Data) {
				b.held = append(b.held, x)
			}
		}
	}
	if e := b.f.Load(l, rev); e != want {
		b.t.Fatalf("P21.4: a filter's Load(%s, %d) = %d, want %d", cut(l), rev, e, want)
	}
	return want
}

func (b *both) take(x api.Event) ([]api.Event, api.Errno) {
	b.t.Helper()
	var want []api.Event
	e := api.ErrFeed
	if isNext(x, b.rev) {
		e, b.rev = api.OK, x.Rev
		i := slices.IndexFunc(b.held, func(y api.Item) bool { return y.Key == x.Key })
		var were []api.Item
		if i >= 0 {
			were = []api.Item{b.held[i]}
			b.held = slices.Concat(b.held[:i], b.held[i+1:])
		}
		now := x.Kind != 3 && chosen(b.kind, b.sel, x.Key, x.Data)
		if now {
			b.held = append(b.held, api.Item{Key: x.Key, Data: x.Data})
		}
		switch {
		case now && i >= 0:
			want = []api.Event{{Rev: x.Rev, Kind: 2, Key: x.Key, Data: x.Data}}
		case now:
			want = []api.Event{{Rev: x.Rev, Kind: 1, Key: x.Key, Data: x.Data}}
		case i >= 0:
			want = []api.Event{{Rev: x.Rev, Kind: 3, Key: x.Key, Data: were[0].Data}}
		}
	}
	l, f := b.f.Take(x)
	if !same(l, want) || f != e {
		b.t.Fatalf("P21.4: of %s, %s at %d, Take(%s) = %s, %d, want %s, %d", b.kind, b.sel, b.rev, cut(x), cut(l), f, cut(want), e)
	}
	return l, f
}

// pair is a cache, and what it must hold.
type pair struct {
	t    *testing.T
	c    *Cache
	rev  int
	held []api.Item
}

func newPair(t *testing.T) *pair { return &pair{t: t, c: NewCache()} }

func (p *pair) at(key string) int {
	return slices.IndexFunc(p.held, func(x api.Item) bool { return x.Key == key })
}

func (p *pair) load(l []api.Item, rev int) api.Errno {
	p.t.Helper()
	want := api.ErrArg
	if isStanding(l, rev) {
		want, p.rev, p.held = api.OK, rev, slices.Clone(l)
	}
	if e := p.c.Load(l, rev); e != want {
		p.t.Fatalf("P21.5: a cache's Load(%s, %d) = %d, want %d", cut(l), rev, e, want)
	}
	p.check()
	return want
}

func (p *pair) take(x api.Event) api.Errno {
	p.t.Helper()
	want := api.ErrFeed
	i := p.at(x.Key)
	if isNext(x, p.rev) && (x.Kind == 1 && i < 0 || x.Kind > 1 && i >= 0) {
		want, p.rev = api.OK, x.Rev
		if i >= 0 {
			p.held = slices.Concat(p.held[:i], p.held[i+1:])
		}
		if x.Kind < 3 {
			p.held = append(p.held, api.Item{Key: x.Key, Rev: x.Rev, Data: slices.Clone(x.Data)})
			sort.Slice(p.held, func(i, k int) bool { return p.held[i].Key < p.held[k].Key })
		}
	}
	if e := p.c.Take(x); e != want {
		p.t.Fatalf("P21.5: at %d, holding %s, Take(%s) = %d, want %d", p.rev, cut(p.held), cut(x), e, want)
	}
	p.check()
	return want
}

// check holds all that a cache tells.
func (p *pair) check() {
	p.t.Helper()
	if p.c.Rev() != p.rev {
		p.t.Fatalf("P21.5: Rev = %d, want %d", p.c.Rev(), p.rev)
	}
	for _, kind := range []string{"", "x", "y", "x/a", "z", "\xff"} {
		var want []api.Item
		for _, x := range p.held {
			if ofKind(x.Key, kind) {
				want = append(want, x)
			}
		}
		if l := p.c.List(kind); !same(l, want) {
			p.t.Fatalf("P21.5: List(%q) = %s, want %s", kind, cut(l), cut(want))
		}
	}
	for _, key := range append(someKeys, "", "none") {
		var want api.Item
		i := p.at(key)
		if i >= 0 {
			want = p.held[i]
		}
		if x, is := p.c.Get(key); !same(x, want) || is != (i >= 0) {
			p.t.Fatalf("P21.5: Get(%q) = %s, %t, want %s, %t", key, cut(x), is, cut(want), i >= 0)
		}
	}
}

// room is the memory of a list, spare room too.
type room struct{ from, to uintptr }

// rooms is the memory of all lists within things.
func rooms(l ...any) []room {
	var out []room
	for _, x := range l {
		out = append(out, roomsOf(reflect.ValueOf(x))...)
	}
	return out
}

func roomsOf(v reflect.Value) []room {
	var l []room
	switch v.Kind() {
	case reflect.Slice:
		if v.Cap() > 0 {
			l = append(l, room{v.Pointer(), v.Pointer() + uintptr(v.Cap())*v.Type().Elem().Size()})
		}
		for i := range v.Len() {
			l = append(l, roomsOf(v.Index(i))...)
		}
	case reflect.Struct:
		for i := range v.NumField() {
			l = append(l, roomsOf(v.Field(i))...)
		}
	}
	return l
}

// checkApart holds rooms against each other: no two may have memory in common.
func checkApart(t *testing.T, l []room) {
	t.Helper()
	sort.Slice(l, func(i, k int) bool { return l[i].from < l[k].from })
	for i := 1; i < len(l); i++ {
		if l[i].from < l[i-1].to {
			t.Fatal("P21.9: two lists share memory")
		}
	}
}

// roomy is bytes in memory of their own, with spare room that has something in it.
func roomy(b []byte) []byte { return append(slices.Clone(b), "spare room"...)[:len(b)] }

// spoil writes over bytes, spare room too.
func spoil(b []byte) {
	b = b[:cap(b)]
	for i := range b {
		b[i] ^= 0xff
	}
}
