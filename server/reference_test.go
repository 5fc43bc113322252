package server

import (
	"bytes"
	stdjson "encoding/json"
	"fmt"
	"maps"
	"math/rand"
	"reflect"
	"regexp"
	"slices"
	"sort"
	"strconv"
	"strings"
	"testing"

	"freehold/api"
	"freehold/apply"
	"freehold/feed"
	"freehold/fields"
	"freehold/json"
	"freehold/jsonpatch"
	"freehold/managers"
	"freehold/mergepatch"
	"freehold/path"
	"freehold/quote"
	"freehold/record"
	"freehold/request"
	"freehold/selector"
	"freehold/store"
	"freehold/strategic"
	"freehold/update"
	"freehold/validate"
	"freehold/value"
)

// What the tests hold the package against, written from the words of the chapter and of the page in other ways than the package's own: a request is played in one go over a store of its own, all that could be wrong at a stage is gathered, and the first in the page's row counts; answers are put together as texts, out of the texts of the records.

// The chapter's numbers, as it says them.
const (
	reads, lists, follows, creates, swaps, removes = 1, 2, 3, 4, 5, 6

	mostObject = 131072
	mostWhere  = 4096
	mostPage   = 500
)

const words = "ok malformed overlimit badrequest violation unfit notfound exists stale conflict expired exhausted"

// plain is the answer of a class that tells nothing more.
func plain(class string) string {
	if !slices.Contains(strings.Fields(words), class) {
		panic("no class: " + class)
	}
	return `{"class":"` + class + `"}`
}

func violation(where string) string {
	if len(where) > mostWhere {
		where = ""
	}
	s, _ := quote.Quote(where)
	return `{"class":"violation","where":` + s + `}`
}

func staleAt(rev int) string { return `{"class":"stale","revision":` + strconv.Itoa(rev) + `}` }

// halves is the texts of the owners and of the value of a record; empty ones, where there is none: then what is told of it does not count.
func halves(data []byte) (string, string) {
	var m map[string]stdjson.RawMessage
	stdjson.Unmarshal(data, &m)
	return string(m["owners"]), string(m["value"])
}

// row is what an answer tells of an object: members before, the record's, and its revision.
func row(before string, data []byte, rev int) string {
	owners, v := halves(data)
	return "{" + before + `"owners":` + owners + `,"revision":` + strconv.Itoa(rev) + `,"value":` + v + "}"
}

func objectAt(data []byte, rev int) string { return row(`"class":"ok",`, data, rev) }

func removedAt(rev int) string { return `{"class":"ok","revision":` + strconv.Itoa(rev) + `}` }

// conflictsAt is the answer of conflicts: by manager and way the paths, gathered one by one.
func conflictsAt(l []api.Conflict, rev int) string {
	var entries []api.Entry
	for _, c := range l {
		ways := append(slices.Clone(managers.Get(entries, c.Manager, c.Way)), c.Path)
		var e api.Errno
		if entries, e = managers.With(entries, c.Manager, c.Way, ways); e != api.OK {
			panic(e)
		}
	}
	v, _ := managers.Encode(entries)
	b, e := json.Print(v, 40)
	if e != api.OK {
		panic(e)
	}
	return `{"class":"conflict","conflicts":` + string(b) + `,"revision":` + strconv.Itoa(rev) + `}`
}

// fault is an answer, if it applies.
type fault struct {
	is     bool
	answer string
}

// first is the first of what applies.
func first(l ...fault) string {
	for _, f := range l {
		if f.is {
			return f.answer
		}
	}
	return ""
}

// player plays one request over a store. Ahead of each access others may do what they like: how many there were is told to them.
type player struct {
	sc      api.Schema
	retries int
	st      *store.Store
	ahead   func(st *store.Store, n int)

	r        api.Request
	typ      string
	accesses []int
	lost     int
}

func (p *player) access(number int) {
	p.ahead(p.st, len(p.accesses))
	p.accesses = append(p.accesses, number)
}

// knows tells whether the schema has the kind, and of which type it is.
func (p *player) knows(kind string) (string, bool) {
	for _, x := range p.sc.Roots {
		if x.Kind == kind {
			return x.Type, true
		}
	}
	return "", false
}

// play answers a text.
func (p *player) play(text []byte) string {
	r, class, e := request.Parse(text)
	if e != api.OK {
		return plain(strings.Fields(words)[class-1])
	}
	p.r = r
	if s := p.atOnce(); s != "" {
		return s
	}
	switch r.Op {
	case api.OpList:
		return p.list()
	case api.OpEvents:
		return p.events()
	case api.OpCreate:
		return p.create()
	}
	return p.write()
}

// atOnce is what is answered without the store: what is wrong with the words, then with the body.
func (p *player) atOnce() string {
	r := p.r
	typ, known := p.knows(r.Kind)
	p.typ = typ
	_, noSelector := print(r.Selector)
	_, kind, sel, _, e := feed.ReadToken(r.Continue)
	canon, _ := print(r.Selector)
	noToken := e != api.OK || kind != r.Kind || sel != canon
	where, wrong := validate.Check(p.sc, typ, r.Body)
	_, _, noSteps := jsonpatch.Parse(r.Body)
	whole := r.Op == api.OpCreate || r.Op == api.OpApply || r.Op == api.OpUpdate
	long := false
	if r.Op == api.OpCreate && wrong == api.OK {
		_, e := record.Encode(p.created())
		long = e == api.ErrObject
	}
	return first(
		fault{!known && !(r.Op == api.OpEvents && r.Kind == ""), plain("badrequest")},
		fault{r.Op == api.OpList && noSelector, plain("badrequest")},
		fault{r.Op == api.OpList && r.Continue != "" && noToken, plain("badrequest")},
		fault{whole && wrong != api.OK, violation(where)},
		fault{r.Op == api.OpSteps && noSteps != api.OK, plain("badrequest")},
		fault{r.Op == api.OpStrategic && strategic.Check(p.sc, typ, r.Body) != api.OK, plain("badrequest")},
		fault{long, plain("overlimit")},
	)
}

// print is the canonical text of a selector; true, if it is none.
func print(sel string) (string, bool) {
	l, _, e := selector.Parse(sel)
	s, _ := selector.Print(l)
	return s, e != api.OK
}

func (p *player) created() api.Object {
	o, e := update.Create(p.sc, p.typ, p.r.Manager, p.r.Body)
	if e != api.OK {
		panic(e)
	}
	return o
}

func (p *player) create() string {
	data, _ := record.Encode(p.created())
	p.access(creates)
	rev, e := p.st.Create(p.r.Kind+"/"+p.r.Name, data)
	return first(
		fault{e == api.OK, objectAt(data, rev)},
		fault{e == api.ErrExists, plain("exists")},
		fault{e == api.ErrFull || e == api.ErrWorn, plain("overlimit")},
	)
}

// write is of all that reads the object first: it goes round as long as writes are lost.
func (p *player) write() string {
	for {
		answer, again := p.round()
		if !again {
			return answer
		}
		p.lost++
		if p.lost == p.retries+1 {
			return plain("exhausted")
		}
	}
}

// round is a read and what follows; true: the write was lost.
func (p *player) round() (string, bool) {
	key := p.r.Kind + "/" + p.r.Name
	p.access(reads)
	data, rev, e := p.st.Get(key)
	there := e == api.OK
	was, bad := record.Decode(data)
	unsound := there && (bad != api.OK || record.Check(p.sc, p.typ, was) != api.OK)
	if s := first(
		fault{unsound, plain("unfit")},
		fault{!there && p.r.Op != api.OpApply, plain("notfound")},
		fault{p.r.Rev > 0 && !there, staleAt(0)},
		fault{p.r.Rev > 0 && p.r.Rev != rev, staleAt(rev)},
		fault{p.r.Op == api.OpGet, objectAt(data, rev)},
	); s != "" {
		return s, false
	}
	if p.r.Op == api.OpDelete {
		p.access(removes)
		gone, e := p.st.Remove(key, rev)
		return p.ended(removedAt(gone), e)
	}
	o, refused := p.behind(was, there, rev)
	if refused != "" {
		return refused, false
	}
	b, e := record.Encode(o)
	if e != api.OK {
		return plain("overlimit"), false
	}
	if there && value.Equal(was.Value, o.Value) && same(was.Entries, o.Entries) {
		return objectAt(data, rev), false
	}
	if !there {
		p.access(creates)
		made, e := p.st.Create(key, b)
		return p.ended(objectAt(b, made), e)
	}
	p.access(swaps)
	made, e := p.st.Swap(key, rev, b)
	return p.ended(objectAt(b, made), e)
}

// ended is how a write ended: won, refused, or lost.
func (p *player) ended(won string, e api.Errno) (string, bool) {
	switch e {
	case api.OK:
		return won, false
	case api.ErrFull, api.ErrWorn:
		return plain("overlimit"), false
	}
	return "", true
}

// behind is the object behind a request, or the answer that refuses it.
func (p *player) behind(was api.Object, there bool, rev int) (api.Object, string) {
	if p.r.Op == api.OpApply {
		o, _, l, e := apply.Apply(p.sc, p.typ, was, there, p.r.Manager, p.r.Body, p.r.Force)
		if e == api.ErrConflict {
			return o, conflictsAt(l, rev)
		}
		return o, first(fault{e != api.OK, plain("overlimit")})
	}
	v, e := p.patched(was.Value)
	large := value.Check(v, 32) != api.OK || e >= api.ErrDeep && e <= api.ErrBytes
	where, wrong := validate.Check(p.sc, p.typ, v)
	o, many := update.Update(p.sc, p.typ, was, p.r.Manager, v)
	return o, first(
		fault{large, plain("overlimit")},
		fault{e != api.OK, plain("unfit")},
		fault{wrong != api.OK, violation(where)},
		fault{many != api.OK, plain("overlimit")},
	)
}

// patched is the value that an update or a patch makes.
func (p *player) patched(v api.Value) (api.Value, api.Errno) {
	var e api.Errno
	switch p.r.Op {
	case api.OpUpdate:
		return p.r.Body, api.OK
	case api.OpMerge:
		return mergepatch.Apply(v, p.r.Body)
	case api.OpStrategic:
		return strategic.Apply(p.sc, p.typ, v, p.r.Body)
	}
	l, _, _ := jsonpatch.Parse(p.r.Body)
	v, _, e = jsonpatch.Apply(v, l)
	return v, e
}

// kinds and names, as chapter 22 has them.
var named = regexp.MustCompile(`^([A-Za-z][A-Za-z0-9_-]{0,63})/([A-Za-z0-9][A-Za-z0-9._-]{0,63})$`)

// fits is how many of some rows of bytes are told together.
func fits(sizes []int, limit int) int {
	sum := 0
	for i, n := range sizes {
		sum += n
		if i == limit || i > 0 && sum > mostObject {
			return i
		}
	}
	return len(sizes)
}

// list is a page: all that stood, what of it is in the choice, and of that what is told.
func (p *player) list() string {
	p.access(lists)
	moment, after := p.st.Rev(), ""
	if p.r.Continue != "" {
		moment, _, _, after, _ = feed.ReadToken(p.r.Continue)
	}
	stood, e := p.st.List(moment, "", "", 1<<30)
	if e != api.OK {
		return plain("expired")
	}
	terms, _, _ := selector.Parse(p.r.Selector)
	var l []api.Item
	var sizes []int
	for _, x := range stood {
		o, _ := record.Decode(x.Data)
		if strings.HasPrefix(x.Key, p.r.Kind+"/") && x.Key > after && selector.Match(terms, selector.Labels(o.Value)) {
			l, sizes = append(l, x), append(sizes, len(x.Data))
		}
	}
	n := fits(sizes, p.limit())
	next := `""`
	if n < len(l) {
		token, e := feed.Token(moment, p.r.Kind, p.r.Selector, l[n-1].Key)
		if e != api.OK {
			return plain("unfit")
		}
		next, _ = quote.Quote(token)
	}
	var rows []string
	for _, x := range l[:n] {
		m := named.FindStringSubmatch(x.Key)
		if _, e := record.Decode(x.Data); e != api.OK || m == nil {
			return plain("unfit")
		}
		rows = append(rows, row(`"name":"`+m[2]+`",`, x.Data, x.Rev))
	}
	return `{"class":"ok","items":[` + strings.Join(rows, ",") + `],"next":` + next + `,"revision":` + strconv.Itoa(moment) + "}"
}

func (p *player) limit() int {
	if p.r.Limit == 0 {
		return mostPage
	}
	return p.r.Limit
}

// events is a page of events.
func (p *player) events() string {
	p.access(follows)
	all, e := p.st.Events(p.r.After, 1<<30)
	if e != api.OK {
		return plain("expired")
	}
	var l []api.Event
	var sizes []int
	for _, x := range all {
		if p.r.Kind == "" || strings.HasPrefix(x.Key, p.r.Kind+"/") {
			l, sizes = append(l, x), append(sizes, len(x.Data))
		}
	}
	n := fits(sizes, p.limit())
	on := p.st.Rev()
	if n < len(l) {
		on = l[n-1].Rev
	}
	var rows []string
	for _, x := range l[:n] {
		if _, e := record.Decode(x.Data); e != api.OK || !named.MatchString(x.Key) {
			return plain("unfit")
		}
		word := []string{"", "created", "swapped", "removed"}[x.Kind]
		rows = append(rows, row(`"event":"`+word+`","key":"`+x.Key+`",`, x.Data, x.Rev))
	}
	return `{"class":"ok","events":[` + strings.Join(rows, ",") + `],"floor":` + strconv.Itoa(p.st.Floor()) + `,"revision":` + strconv.Itoa(on) + "}"
}

// same tells whether two things of package api are the same, where nil and empty lists are.
func same(a, b any) bool { return sameOf(reflect.ValueOf(a), reflect.ValueOf(b)) }

func sameOf(a, b reflect.Value) bool {
	switch a.Kind() {
	case reflect.Slice:
		if a.Len() != b.Len() {
			return false
		}
		for i := range a.Len() {
			if !sameOf(a.Index(i), b.Index(i)) {
				return false
			}
		}
		return true
	case reflect.Struct:
		for i := range a.NumField() {
			if !sameOf(a.Field(i), b.Field(i)) {
				return false
			}
		}
		return true
	}
	return a.Equal(b)
}

// cut is a long text, shortened for a test to tell.
func cut(s string) string {
	if len(s) > 1500 {
		return fmt.Sprintf("%s .. (%d bytes)", s[:200], len(s))
	}
	return s
}

// twin is a store like another one.
func twin(st *store.Store) *store.Store {
	t, e := store.Open(st.Bytes())
	if e != api.OK {
		panic(e)
	}
	return t
}

// nobody does nothing between the accesses of a request.
func nobody(*store.Store, int) {}

func made(sc api.Schema, retries int) *Server {
	s, e := New(sc, retries)
	if e != api.OK {
		panic(e)
	}
	return s
}

// hold plays a request over a store, step by step, with others between, and holds all that can be seen against the second reading. The store is left as it is.
func hold(t *testing.T, s *Server, st *store.Store, text string, ahead func(st *store.Store, n int)) (string, *store.Store) {
	t.Helper()
	p := &player{sc: s.schema, retries: s.retries, st: twin(st), ahead: ahead}
	want := p.play([]byte(text))
	b := []byte(text)
	f, e := s.Begin(b)
	if e != api.OK || string(b) != text {
		t.Fatalf("P23.2: Begin: %d: %s", e, cut(text))
	}
	clear(b) // it is the caller's again
	mine := twin(st)
	for n, number := range p.accesses {
		if got, there := f.Answer(); got != nil || there || f.Next() != number {
			t.Fatalf("P23.3: the access %d is to be %v, Next is %d, the answer %s: %s", n, p.accesses, f.Next(), got, cut(text))
		}
		ahead(mine, n)
		before, at := mine.Bytes(), mine.Rev()
		done, e := f.Step(mine)
		if last := n == len(p.accesses)-1; e != api.OK || done != last {
			t.Fatalf("P23.4: the access %d of %v: done %v, %d: %s", n, p.accesses, done, e, cut(text))
		}
		won := done && number >= creates && strings.HasPrefix(want, `{"class":"ok"`)
		if won && mine.Rev() != at+1 || !won && !bytes.Equal(mine.Bytes(), before) {
			t.Fatalf("P23.7: the access %d of %v wrote, or did not: %s", n, p.accesses, cut(text))
		}
	}
	checkDone(t, f, mine, p, want, text)
	if !bytes.Equal(mine.Bytes(), p.st.Bytes()) {
		t.Fatalf("P23.4: the store is another one: %s", cut(text))
	}
	return want, mine
}

// checkDone holds a flight that has its answer.
func checkDone(t *testing.T, f *Flight, st *store.Store, p *player, want, text string) {
	t.Helper()
	got, there := f.Answer()
	if !there || string(got) != want || f.Next() != 0 || f.Lost() != p.lost {
		t.Fatalf("P23.4: %s (%v, Next %d, Lost %d), want %s (lost %d): %s", cut(string(got)), there, f.Next(), f.Lost(), cut(want), p.lost, cut(text))
	}
	before := st.Bytes()
	if done, e := f.Step(st); done || e != api.ErrDone || !bytes.Equal(before, st.Bytes()) {
		t.Fatalf("P23.4: a step behind the answer: %v, %d: %s", done, e, cut(text))
	}
	if a, e := request.ReadAnswer(got); e != api.OK || a.Class < 1 {
		t.Fatalf("P23.5: no answer: %d: %s", e, cut(text))
	}
	scribble(got)
	if again, there := f.Answer(); !there || string(again) != want {
		t.Fatalf("P23.8: what was written into an answer is seen in the next one: %s", cut(text))
	}
}

// scribble writes over bytes and the room behind them.
func scribble(b []byte) {
	b = b[:cap(b)]
	for i := range b {
		b[i] = '!'
	}
}

// holdAlone holds a request that comes alone, and what Do answers to it; the store is left as it is behind the request.
func holdAlone(t *testing.T, s *Server, st *store.Store, text string) (string, *store.Store) {
	t.Helper()
	want, behind := hold(t, s, st, text, nobody)
	b := []byte(text)
	mine := twin(st)
	got, e := s.Do(mine, b)
	if e != api.OK || string(got) != want || string(b) != text || !bytes.Equal(mine.Bytes(), behind.Bytes()) {
		t.Fatalf("P23.6: Do: %s, %d, want %s: %s", cut(string(got)), e, cut(want), cut(text))
	}
	return want, behind
}

// Schemas.

func fieldsOf(l ...string) []api.Field {
	var to []api.Field
	for i := 0; i < len(l); i += 2 {
		to = append(to, api.Field{Name: l[i], Type: l[i+1]})
	}
	return to
}

// small is the schema of chapter 24's examples.
func small() api.Schema {
	return api.Schema{
		Types: []api.Type{{Name: "t", Kind: api.TypeStruct, Fields: fieldsOf("a", "int")}},
		Roots: []api.Root{{Kind: "t", Type: "t"}},
	}
}

// rich has a kind t of chapter 12's type T with labels besides, a kind m whose objects are maps, and one n by another name.
func rich() api.Schema {
	return api.Schema{
		Types: []api.Type{
			{Name: "C", Kind: api.TypeStr, Enum: []api.Value{{Kind: api.Str, Str: "g"}, {Kind: api.Str, Str: "r"}}},
			{Name: "E", Kind: api.TypeStruct, Fields: fieldsOf("id", "int", "x", "string")},
			{Name: "L", Kind: api.TypeList, Elem: "E", Rel: api.Keyed, Keys: []string{"id"}},
			{Name: "M", Kind: api.TypeMap, Elem: "string"},
			{Name: "N", Kind: api.TypeName, Elem: "M"},
			{Name: "S", Kind: api.TypeList, Elem: "string", Rel: api.Set},
			{Name: "T", Kind: api.TypeStruct, Fields: fieldsOf("a", "int", "c", "C", "l", "L", "labels", "M", "m", "M", "s", "S", "w", "W")},
			{Name: "W", Kind: api.TypeList, Elem: "int"},
		},
		Roots: []api.Root{{Kind: "m", Type: "M"}, {Kind: "n", Type: "N"}, {Kind: "t", Type: "T"}},
	}
}

// loose has a kind whose objects can be deep or large: structs in structs, as deep as wanted, maps of texts, long lists.
func loose() api.Schema {
	return api.Schema{
		Types: []api.Type{
			{Name: "D", Kind: api.TypeStruct, Fields: fieldsOf("d", "D", "v", "int")},
			{Name: "I", Kind: api.TypeMap, Elem: "int"},
			{Name: "O", Kind: api.TypeStruct, Fields: fieldsOf("d", "D", "i", "I", "n", "W", "t", "X")},
			{Name: "W", Kind: api.TypeList, Elem: "int"},
			{Name: "X", Kind: api.TypeMap, Elem: "string"},
		},
		Roots: []api.Root{{Kind: "o", Type: "O"}},
	}
}

// Stores.

// laid is a store with some keys, told as pairs of a key and its bytes; the counter begins at a number.
func laid(at int, l ...string) *store.Store {
	st, e := store.New(at)
	if e != api.OK {
		panic(e)
	}
	for i := 0; i < len(l); i += 2 {
		if _, e := st.Create(l[i], []byte(l[i+1])); e != api.OK {
			panic(e)
		}
	}
	return st
}

// rec is a record's bytes: a value, and owners, told as "manager way path path ..".
func rec(v string, owners ...string) string {
	val, _, e := json.Parse([]byte(v), 32)
	if e != api.OK {
		panic(v)
	}
	var l []string
	for _, s := range owners {
		parts := strings.Fields(s)
		l = append(l, `{"fields":`+waysOf(parts[2:])+`,"manager":"`+parts[0]+`","way":"`+parts[1]+`"}`)
	}
	canon, _ := json.Print(val, 32)
	return `{"owners":[` + strings.Join(l, ",") + `],"value":` + string(canon) + "}"
}

// waysOf is the text of a set of paths.
func waysOf(l []string) string {
	var set []api.Path
	for _, s := range l {
		p, _, e := path.Parse(s)
		if e != api.OK {
			panic(s)
		}
		set = append(set, p)
	}
	v, e := fields.Encode(set)
	if e != api.OK {
		panic(strings.Join(l, " "))
	}
	b, _ := json.Print(v, 40)
	return string(b)
}

// turn gives a key other bytes, whatever it has; without bytes it goes. Others write so.
func turn(st *store.Store, key, data string) {
	_, rev, e := st.Get(key)
	switch {
	case data == "" && e == api.OK:
		st.Remove(key, rev)
	case data != "" && e == api.OK:
		st.Swap(key, rev, []byte(data))
	case data != "":
		st.Create(key, []byte(data))
	}
}

// ask is a request's text: an op, and members told as pairs of a key and a text.
func ask(op string, l ...string) string {
	m := map[string]string{"op": `"` + op + `"`}
	for i := 0; i < len(l); i += 2 {
		m[l[i]] = l[i+1]
	}
	var parts []string
	for _, key := range slices.Sorted(maps.Keys(m)) {
		parts = append(parts, `"`+key+`":`+m[key])
	}
	return "{" + strings.Join(parts, ",") + "}"
}

// askOf is a request for an object of a kind by a manager, with a body.
func askOf(op, kind, name, manager, body string, l ...string) string {
	return ask(op, append([]string{"kind", `"` + kind + `"`, "name", `"` + name + `"`, "manager", `"` + manager + `"`, "body", body}, l...)...)
}

// askFor is a request for an object without a body.
func askFor(op, kind, name string, l ...string) string {
	return ask(op, append([]string{"kind", `"` + kind + `"`, "name", `"` + name + `"`}, l...)...)
}

func pickOf[T any](r *rand.Rand, l ...T) T { return l[r.Intn(len(l))] }

// quoted is a text as JSON writes it.
func quoted(s string) string {
	q, _ := quote.Quote(s)
	return q
}

// classOf is the word of an answer's class.
func classOf(answer string) string {
	for _, w := range strings.Fields(words) {
		if strings.HasPrefix(answer, `{"class":"`+w+`"`) {
			return w
		}
	}
	return ""
}

// count is how often each class was met.
type count map[string]int

// covers holds that each of some classes was met.
func (c count) covers(t *testing.T, classes string) {
	t.Helper()
	met := slices.Collect(maps.Keys(c))
	sort.Strings(met)
	want := strings.Fields(classes)
	sort.Strings(want)
	if !slices.Equal(met, want) {
		t.Errorf("the classes %v were met, want %v", met, want)
	}
}
