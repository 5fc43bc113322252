package engine_test

import (
	"bytes"
	"fmt"
	"maps"
	"math/big"
	"math/rand"
	"reflect"
	"slices"
	"strings"
	"testing"

	"freehold/api"
	"freehold/engine"
	"freehold/fields"
	"freehold/json"
	"freehold/path"
	"freehold/quote"
	"freehold/request"
	"freehold/server"
	"freehold/store"
)

// What the tests hold the package against, written from the words of the chapter in other ways than the package's own: the requests in flight stand in a map and are counted out anew at each pick, and what each of them read and lost is noted; calls are found by asking each pair of requests.

// The chapter's numbers, as it says them.
const (
	sends, picks = 1, 2
	mostFlight   = 64
	mostMoves    = 65536

	overlimit = `{"class":"overlimit"}`
	exhausted = `{"class":"exhausted"}`
)

// sent is a request of the second reading.
type sent struct {
	text   string
	at     int
	flight *server.Flight
	asks   string // the key of the object that it is for; empty, if it is for none
	read   int    // the store's revision at its last read, or when it came
	lost   int
}

// reader is the second reading of a script.
type reader struct {
	t       *testing.T
	server  *server.Server
	retries int
	st      *store.Store
	all     []*sent
	flying  map[int]*sent
	report  api.Report
}

// again plays a script by the second reading.
func again(t *testing.T, sc api.Schema, retries int, start []byte, moves []api.Move) api.Report {
	t.Helper()
	s, e := server.New(sc, retries)
	if e != api.OK {
		t.Fatal(e)
	}
	p := &reader{t: t, server: s, retries: retries, st: storeOf(start), flying: map[int]*sent{}}
	for at, m := range moves {
		if m.Kind == sends {
			p.come(at, string(m.Text))
		} else if len(p.flying) > 0 {
			p.pick(at, m.Who)
		}
	}
	p.report.Flight = slices.Sorted(maps.Keys(p.flying))
	p.report.Store = p.st.Bytes()
	return p.report
}

// storeOf is the store of a start.
func storeOf(start []byte) *store.Store {
	if len(start) == 0 {
		return laid(0)
	}
	st, e := store.Open(start)
	if e != api.OK {
		panic(e)
	}
	return st
}

func (p *reader) come(at int, text string) {
	number := len(p.all)
	x := &sent{text: text, at: at, asks: keyOf(text), read: p.st.Rev()}
	p.all = append(p.all, x)
	if len(p.flying) >= mostFlight {
		p.end(number, at, overlimit)
		return
	}
	x.flight, _ = p.server.Begin([]byte(text))
	if x.flight.Next() == api.AccessNone {
		b, _ := x.flight.Answer()
		p.end(number, at, string(b))
		return
	}
	p.flying[number] = x
}

// pick has the one at a place, counted round as far as needs be, make its access.
func (p *reader) pick(at, who int) {
	numbers := slices.Sorted(maps.Keys(p.flying))
	place := new(big.Int).Mod(big.NewInt(int64(who)), big.NewInt(int64(len(numbers)))) // never negative
	number := numbers[place.Int64()]
	x := p.flying[number]
	if next := x.flight.Next(); next == api.AccessRead || next == api.AccessList || next == api.AccessEvents {
		x.read = p.st.Rev()
	}
	came := p.between(x)
	done, _ := x.flight.Step(p.st)
	p.checkLost(x, came)
	if done {
		b, _ := x.flight.Answer()
		p.end(number, at, string(b))
		delete(p.flying, number)
	}
}

// between tells whether somebody wrote the request's object since it read.
func (p *reader) between(x *sent) bool {
	if x.asks == "" {
		return false
	}
	l, e := p.st.Events(x.read, api.MaxPast)
	if e != api.OK {
		p.t.Fatalf("the past behind %d: %d", x.read, e)
	}
	return slices.ContainsFunc(l, func(x2 api.Event) bool { return x2.Key == x.asks })
}

// checkLost holds what a request lost at an access.
func (p *reader) checkLost(x *sent, came bool) {
	p.t.Helper()
	b, done := x.flight.Answer()
	switch now := x.flight.Lost(); {
	case now == x.lost+1 && !came:
		p.t.Fatalf("P24.7: a write was lost, and nobody had written: %s", x.text)
	case now != x.lost && now != x.lost+1:
		p.t.Fatalf("P24.7: %d lost, then %d: %s", x.lost, now, x.text)
	case done && (now > p.retries) != (string(b) == exhausted):
		p.t.Fatalf("P24.7: %d lost of %d: %s: %s", now, p.retries, b, x.text)
	default:
		x.lost = now
	}
}

func (p *reader) end(number, at int, answer string) {
	p.report.Done = append(p.report.Done, api.Done{Who: number, Sent: p.all[number].at, At: at, Answer: []byte(answer)})
}

// keyOf is the key of the object that a text asks for.
func keyOf(text string) string {
	r, _, e := request.Parse([]byte(text))
	if e != api.OK || r.Name == "" {
		return ""
	}
	return r.Kind + "/" + r.Name
}

// alone plays texts one behind the other over a store, and says at which moves of a script they would come and end.
func alone(t *testing.T, sc api.Schema, retries int, start []byte, texts []string) api.Report {
	t.Helper()
	s, e := server.New(sc, retries)
	if e != api.OK {
		t.Fatal(e)
	}
	st := storeOf(start)
	var r api.Report
	at := 0
	for i, text := range texts {
		accesses := 0
		over := storeOf(st.Bytes()) // whose accesses are counted
		for f, _ := s.Begin([]byte(text)); f.Next() != api.AccessNone; accesses++ {
			f.Step(over)
		}
		b, _ := s.Do(st, []byte(text))
		r.Done = append(r.Done, api.Done{Who: i, Sent: at, At: at + accesses, Answer: b})
		at += accesses + 1
	}
	r.Store = st.Bytes()
	return r
}

// seen is Calls by the chapter's words, each request asked against each.
func seen(moves []api.Move, r api.Report) ([]api.Call, api.Errno) {
	var came []int
	for at, m := range moves {
		if m.Kind == sends {
			came = append(came, at)
		}
	}
	named := map[int]int{}
	for _, who := range r.Flight {
		named[who]++
	}
	for _, d := range r.Done {
		named[d.Who]++
	}
	for who, times := range named {
		if who < 0 || who >= len(came) || times > 1 {
			return nil, api.ErrScript
		}
	}
	for _, d := range r.Done {
		if d.Sent != came[d.Who] || d.At < d.Sent || d.At >= len(moves) {
			return nil, api.ErrScript
		}
	}
	var l []api.Call
	for who := range came {
		for _, d := range r.Done {
			if d.Who == who && !away(r, came, d) {
				l = append(l, api.Call{Begin: 2 * d.Sent, End: 2*d.At + 1, Request: moves[d.Sent].Text, Answer: d.Answer})
			}
		}
	}
	return l, api.OK
}

// away tells whether a request was turned away.
func away(r api.Report, came []int, d api.Done) bool {
	under := 0
	for _, x := range r.Done {
		if x.Sent < d.Sent && x.At > d.Sent {
			under++
		}
	}
	for _, who := range r.Flight {
		if came[who] < d.Sent {
			under++
		}
	}
	return d.At == d.Sent && under >= mostFlight
}

// Moves.

func send(text string) api.Move { return api.Move{Kind: sends, Text: []byte(text)} }

func pick(who int) api.Move { return api.Move{Kind: picks, Who: who} }

// script is moves: a text is sent, a number is picked.
func script(l ...any) []api.Move {
	var moves []api.Move
	for _, x := range l {
		switch x := x.(type) {
		case string:
			moves = append(moves, send(x))
		case int:
			moves = append(moves, pick(x))
		case []api.Move:
			moves = append(moves, x...)
		}
	}
	return moves
}

// told is moves as a text.
func told(moves []api.Move) string {
	var l []string
	for _, m := range moves {
		if m.Kind == sends {
			l = append(l, string(m.Text))
		} else {
			l = append(l, fmt.Sprint(m.Who))
		}
	}
	return cut(strings.Join(l, "; "))
}

// tellReport is a report as a text.
func tellReport(r api.Report) string {
	var l []string
	for _, d := range r.Done {
		l = append(l, fmt.Sprintf("%d %d-%d %s", d.Who, d.Sent, d.At, d.Answer))
	}
	return cut(fmt.Sprintf("%s; in flight %v; %q", strings.Join(l, ", "), r.Flight, r.Store))
}

// cut is a long text, shortened for a test to tell.
func cut(s string) string {
	if len(s) > 3000 {
		return fmt.Sprintf("%s .. (%d bytes)", s[:3000], len(s))
	}
	return s
}

// same holds two answers to be the same; nil and empty lists are.
func same(a, b any) bool { return sameOf(reflect.ValueOf(a), reflect.ValueOf(b)) }

func sameOf(a, b reflect.Value) bool {
	switch a.Kind() {
	case reflect.Slice:
		if a.Len() != b.Len() {
			return false
		}
		for i := range a.Len() {
			if !sameOf(a.Index(i), b.Index(i)) {
				return false
			}
		}
		return true
	case reflect.Struct:
		for i := range a.NumField() {
			if !sameOf(a.Field(i), b.Field(i)) {
				return false
			}
		}
		return true
	}
	return a.Equal(b)
}

// hold plays a script in all ways, and holds what they answer against the second reading, and what is to hold of it.
func hold(t *testing.T, sc api.Schema, retries int, start []byte, moves []api.Move) api.Report {
	t.Helper()
	want := again(t, sc, retries, start, moves)
	got, e := engine.Run(sc, retries, start, moves)
	if e != api.OK || !same(got, want) {
		t.Fatalf("P24.1: Run: %d, %s, want %s: %s", e, tellReport(got), tellReport(want), told(moves))
	}
	if got, e := engine.Crew(sc, retries, start, moves); e != api.OK || !same(got, want) {
		t.Fatalf("P24.3: Crew: %d, %s, want %s: %s", e, tellReport(got), tellReport(want), told(moves))
	}
	holdOrder(t, got, moves)
	holdSerial(t, sc, retries, start, got, moves)
	holdCalls(t, moves, got)
	if _, e := engine.Run(sc, retries, got.Store, nil); e != api.OK {
		t.Fatalf("P24.1: the store that was left is no start: %d: %s", e, told(moves))
	}
	return got
}

// holdOrder holds P24.6: who was done ahead of another one's coming stands ahead of it.
func holdOrder(t *testing.T, r api.Report, moves []api.Move) {
	t.Helper()
	for i := 1; i < len(r.Done); i++ {
		if r.Done[i-1].At >= r.Done[i].At {
			t.Fatalf("P24.6: the order of the ends: %s: %s", tellReport(r), told(moves))
		}
	}
	if !slices.IsSorted(r.Flight) {
		t.Fatalf("P24.1: in flight %v: %s", r.Flight, told(moves))
	}
}

// holdSerial holds P24.5 and P24.2: what was done is as if each had come alone, in the order of the ends.
func holdSerial(t *testing.T, sc api.Schema, retries int, start []byte, r api.Report, moves []api.Move) {
	t.Helper()
	var texts []string
	var answers []string
	for _, d := range r.Done {
		if d.At > d.Sent && string(d.Answer) != exhausted {
			texts = append(texts, string(moves[d.Sent].Text))
			answers = append(answers, string(d.Answer))
		}
	}
	got, e := engine.Serial(sc, retries, start, rows(texts))
	if want := alone(t, sc, retries, start, texts); e != api.OK || !same(got, want) {
		t.Fatalf("P24.2: %d, %s, want %s: %s", e, tellReport(got), tellReport(want), told(moves))
	}
	for i, d := range got.Done {
		if string(d.Answer) != answers[i] || d.At >= len(moves) {
			t.Fatalf("P24.5: the request %d of %q: %s, want %s: %s", i, texts, d.Answer, answers[i], told(moves))
		}
	}
	if !bytes.Equal(got.Store, r.Store) {
		t.Fatalf("P24.5: the store %q, want %q: %s", got.Store, r.Store, told(moves))
	}
}

// holdCalls holds P24.4.
func holdCalls(t *testing.T, moves []api.Move, r api.Report) {
	t.Helper()
	got, e := engine.Calls(moves, r)
	if want, e2 := seen(moves, r); e != e2 || !same(got, want) {
		t.Fatalf("P24.4: %d, %v, want %d, %v: %s; %s", e, got, e2, want, tellReport(r), told(moves))
	}
}

// rows is texts as bytes.
func rows(l []string) [][]byte {
	var to [][]byte
	for _, s := range l {
		to = append(to, []byte(s))
	}
	return to
}

// Schemas.

func fieldsOf(l ...string) []api.Field {
	var to []api.Field
	for i := 0; i < len(l); i += 2 {
		to = append(to, api.Field{Name: l[i], Type: l[i+1]})
	}
	return to
}

// small is the schema of the chapter's examples.
func small() api.Schema {
	return api.Schema{
		Types: []api.Type{{Name: "t", Kind: api.TypeStruct, Fields: fieldsOf("a", "int")}},
		Roots: []api.Root{{Kind: "t", Type: "t"}},
	}
}

// rich has a kind t of structs with lists of all sorts and labels, and a kind m whose objects are maps.
func rich() api.Schema {
	return api.Schema{
		Types: []api.Type{
			{Name: "E", Kind: api.TypeStruct, Fields: fieldsOf("id", "int", "x", "string")},
			{Name: "L", Kind: api.TypeList, Elem: "E", Rel: api.Keyed, Keys: []string{"id"}},
			{Name: "M", Kind: api.TypeMap, Elem: "string"},
			{Name: "S", Kind: api.TypeList, Elem: "string", Rel: api.Set},
			{Name: "T", Kind: api.TypeStruct, Fields: fieldsOf("a", "int", "l", "L", "labels", "M", "s", "S", "w", "W")},
			{Name: "W", Kind: api.TypeList, Elem: "int"},
		},
		Roots: []api.Root{{Kind: "m", Type: "M"}, {Kind: "t", Type: "T"}},
	}
}

// Stores.

// laid is a store with some keys, told as pairs of a key and its bytes; the counter begins at a number.
func laid(at int, l ...string) *store.Store {
	st, e := store.New(at)
	if e != api.OK {
		panic(e)
	}
	for i := 0; i < len(l); i += 2 {
		if _, e := st.Create(l[i], []byte(l[i+1])); e != api.OK {
			panic(e)
		}
	}
	return st
}

// rec is a record's bytes: a value, and owners, told as "manager way path path ..".
func rec(v string, owners ...string) string {
	var l []string
	for _, s := range owners {
		parts := strings.Fields(s)
		l = append(l, `{"fields":`+waysOf(parts[2:])+`,"manager":"`+parts[0]+`","way":"`+parts[1]+`"}`)
	}
	return `{"owners":[` + strings.Join(l, ",") + `],"value":` + v + "}"
}

// waysOf is the text of a set of paths.
func waysOf(l []string) string {
	var set []api.Path
	for _, s := range l {
		p, _, e := path.Parse(s)
		if e != api.OK {
			panic(s)
		}
		set = append(set, p)
	}
	v, e := fields.Encode(set)
	if e != api.OK {
		panic(strings.Join(l, " "))
	}
	b, _ := json.Print(v, 40)
	return string(b)
}

// Requests.

// ask is a request's text: an op, and members told as pairs of a key and a text.
func ask(op string, l ...string) string {
	m := map[string]string{"op": `"` + op + `"`}
	for i := 0; i < len(l); i += 2 {
		m[l[i]] = l[i+1]
	}
	var parts []string
	for _, key := range slices.Sorted(maps.Keys(m)) {
		parts = append(parts, `"`+key+`":`+m[key])
	}
	return "{" + strings.Join(parts, ",") + "}"
}

// askOf is a request for an object of a kind by a manager, with a body.
func askOf(op, kind, name, manager, body string, l ...string) string {
	return ask(op, append([]string{"kind", `"` + kind + `"`, "name", `"` + name + `"`, "manager", `"` + manager + `"`, "body", body}, l...)...)
}

// askFor is a request for an object without a body.
func askFor(op, kind, name string, l ...string) string {
	return ask(op, append([]string{"kind", `"` + kind + `"`, "name", `"` + name + `"`}, l...)...)
}

// force is an apply of {a: n} to t/x by a manager, forced.
func force(manager string, n int) string {
	return askOf("apply", "t", "x", manager, fmt.Sprintf(`{"a":%d}`, n), "force", "true")
}

// create is a create of t/x by m with {a: 1}.
func create() string { return askOf("create", "t", "x", "m", `{"a":1}`) }

// get is a get of t/x.
func get() string { return askFor("get", "t", "x") }

// many is a move, as often as a number says.
func many(n int, m api.Move) []api.Move { return slices.Repeat([]api.Move{m}, n) }

// quoted is a text as JSON writes it.
func quoted(s string) string {
	q, _ := quote.Quote(s)
	return q
}

func pickOf[T any](r *rand.Rand, l ...T) T { return l[r.Intn(len(l))] }

const words = "ok malformed overlimit badrequest violation unfit notfound exists stale conflict expired exhausted"

// classOf is the word of an answer's class.
func classOf(answer []byte) string {
	for _, w := range strings.Fields(words) {
		if strings.HasPrefix(string(answer), `{"class":"`+w+`"`) {
			return w
		}
	}
	return ""
}

// count is how often each class was met.
type count map[string]int

func (c count) add(r api.Report) {
	for _, d := range r.Done {
		c[classOf(d.Answer)]++
	}
}

// covers holds that each of some classes was met, and no other.
func (c count) covers(t *testing.T, classes string) {
	t.Helper()
	met := slices.Sorted(maps.Keys(c))
	want := slices.Sorted(slices.Values(strings.Fields(classes)))
	if !slices.Equal(met, want) {
		t.Errorf("the classes %v were met, want %v", met, want)
	}
}
