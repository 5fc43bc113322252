package request

import (
	"fmt"
	"math"
	"math/rand"
	"reflect"
	"regexp"
	"slices"
	"sort"
	"strings"
	"testing"
	"unicode/utf8"

	"freehold/api"
	"freehold/json"
	"freehold/managers"
	"freehold/path"
	"freehold/value"
)

// What the tests hold the package against, written from the words of the chapter in other ways than the package's own: the chapter's tables are texts that are cut up; a request's fields are found by reflection, and what may stand in them is said by regular expressions; an answer may be, if nothing of it is left when what its class and op tell is taken out, and what is told is within its bounds; conflicts are ordered by bytes that keep their order; bytes are an answer's, if they are canonical and each member is read strictly, by itself.

const requestRows = `
get | kind name |
list | kind | selector limit continue
events | after | kind limit
create | body kind manager name |
apply | body kind manager name | force revision
update | body kind manager name | revision
merge | body kind manager name | revision
steps | body kind manager name | revision
strategic | body kind manager name | revision
delete | kind name | revision`

const answerRows = `
ok | 1 | owners revision value
ok | 10 | revision
ok | 2 | items next revision
ok | 3 | events floor revision
violation | 0 | where
stale | 0 | revision
conflict | 0 | conflicts revision
malformed | 0 |
overlimit | 0 |
badrequest | 0 |
unfit | 0 |
notfound | 0 |
exists | 0 |
expired | 0 |
exhausted | 0 |`

var (
	opWords    = strings.Fields("- get list events create apply update merge steps strategic delete")
	classWords = strings.Fields("- ok malformed overlimit badrequest violation unfit notfound exists stale conflict expired exhausted")
	eventWords = strings.Fields("- created swapped removed")

	requestKeys = strings.Fields("after body continue force kind limit manager name revision selector")
	answerKeys  = strings.Fields("conflicts events floor items next owners revision value where")

	kindForm = regexp.MustCompile(`\A[A-Za-z][A-Za-z0-9_-]{0,63}\z`)
	nameForm = regexp.MustCompile(`\A[A-Za-z0-9][A-Za-z0-9._-]{0,63}\z`)
)

// rows cuts a table into its rows, and each of them into its columns.
func rows(table string) [][]string {
	var l [][]string
	for _, line := range strings.Split(strings.TrimSpace(table), "\n") {
		row := strings.Split(line, "|")
		for i := range row {
			row[i] = strings.TrimSpace(row[i])
		}
		l = append(l, row)
	}
	return l
}

// index is the place of a word among some; 0, if it is none of them.
func index(words []string, s string) int { return max(slices.Index(words, s), 0) }

// wordOf is the word of a number; a dash, if it has none.
func wordOf(words []string, n int) string {
	if n < 0 || n >= len(words) {
		return "-"
	}
	return words[n]
}

func within(n, least, most int) bool { return n >= least && n <= most }

// mayStand tells whether a value may be that of a request's member.
func mayStand(key string, v api.Value) bool {
	isString := v.Kind == api.Str && utf8.ValidString(v.Str)
	switch key {
	case "body":
		return value.Depth(v) >= 0
	case "force":
		return v.Kind == api.Bool
	case "after":
		return v.Kind == api.Int && within(v.Int, 0, 9007199254740991)
	case "revision":
		return v.Kind == api.Int && within(v.Int, 1, 9007199254740991)
	case "limit":
		return v.Kind == api.Int && within(v.Int, 1, 500)
	case "kind":
		return isString && kindForm.MatchString(v.Str)
	case "name":
		return isString && nameForm.MatchString(v.Str)
	case "manager":
		return isString && within(len(v.Str), 1, 64)
	case "selector":
		return isString && len(v.Str) <= 4096
	case "continue":
		return isString
	}
	return false
}

// isRequest tells whether members are those of a request with that op.
func isRequest(op string, members map[string]api.Value) bool {
	for _, row := range rows(requestRows) {
		if row[0] != op {
			continue
		}
		may := strings.Fields(row[1] + " " + row[2])
		for key, v := range members {
			if !slices.Contains(may, key) || !mayStand(key, v) {
				return false
			}
		}
		for _, key := range strings.Fields(row[1]) {
			if _, is := members[key]; !is {
				return false
			}
		}
		return true
	}
	return false
}

// fieldOf is the field of a request with a member's name.
func fieldOf(r *api.Request, key string) reflect.Value {
	name := strings.ToUpper(key[:1]) + key[1:]
	if key == "revision" {
		name = "Rev"
	}
	return reflect.ValueOf(r).Elem().FieldByName(name)
}

func wantParse(b []byte) (api.Request, int, api.Errno) {
	v, _, e := json.Parse(b, 32)
	if e == api.ErrTextLong || e == api.ErrNodes || e == api.ErrDeep || e == api.ErrBytes {
		return api.Request{}, 3, e
	}
	if e != api.OK {
		return api.Request{}, 2, e
	}
	members := map[string]api.Value{}
	for _, m := range v.Map {
		members[m.Key] = m.Val
	}
	op := members["op"]
	delete(members, "op")
	if v.Kind != api.Map || op.Kind != api.Str || !isRequest(op.Str, members) {
		return api.Request{}, 4, api.ErrRequest
	}
	r := api.Request{Op: index(opWords, op.Str)}
	for key, v := range members {
		switch to := fieldOf(&r, key); to.Kind() {
		case reflect.Int:
			to.SetInt(int64(v.Int))
		case reflect.String:
			to.SetString(v.Str)
		case reflect.Bool:
			to.SetBool(v.Bool)
		default:
			to.Set(reflect.ValueOf(v))
		}
	}
	return r, 1, api.OK
}

// valued is a field of a request as a value.
func valued(from reflect.Value) api.Value {
	switch x := from.Interface().(type) {
	case int:
		return num(x)
	case string:
		return str(x)
	case bool:
		return yes(x)
	case api.Value:
		return x
	}
	panic(from)
}

func wantPrint(r api.Request) ([]byte, api.Errno) {
	op, members := wordOf(opWords, r.Op), map[string]api.Value{}
	must := ""
	for _, row := range rows(requestRows) {
		if row[0] == op {
			must = row[1]
		}
	}
	for _, key := range requestKeys {
		from := fieldOf(&r, key)
		if empty := same(from.Interface(), reflect.Zero(from.Type()).Interface()); !empty || slices.Contains(strings.Fields(must), key) {
			members[key] = valued(from)
		}
	}
	if !isRequest(op, members) {
		return nil, api.ErrRequest
	}
	members["op"] = str(op)
	return json.Print(mapOf(members), 32)
}

// mapOf is the value of a map of the language's.
func mapOf(members map[string]api.Value) api.Value {
	v := object()
	for key, x := range members {
		v.Map = append(v.Map, at(key, x))
	}
	sort.Slice(v.Map, func(i, k int) bool { return v.Map[i].Key < v.Map[k].Key })
	return v
}

// keysOf lists the members, beside its class, of an answer of a class and an op.
func keysOf(class, op int) ([]string, bool) {
	for _, row := range rows(answerRows) {
		if row[0] == wordOf(classWords, class) && row[1] == fmt.Sprint(op) {
			return strings.Fields(row[2]), true
		}
	}
	return nil, false
}

// without is an answer without what a member tells.
func without(a api.Answer, key string) api.Answer {
	switch key {
	case "conflicts":
		a.Conflicts = nil
	case "events":
		a.Events = nil
	case "floor":
		a.Floor = 0
	case "items":
		a.Items = nil
	case "next":
		a.Next = ""
	case "owners":
		a.Object.Entries = nil
	case "revision":
		a.Rev = 0
	case "value":
		a.Object.Value = api.Value{}
	case "where":
		a.Where = ""
	}
	return a
}

func wantMayBe(a api.Answer) bool {
	keys, is := keysOf(a.Class, a.Op)
	rest := a
	for _, key := range keys {
		rest = without(rest, key)
	}
	if !is || !same(rest, api.Answer{Class: a.Class, Op: a.Op, There: a.Op == 1}) {
		return false
	}
	revs, objects, lines := []int{a.Rev, a.Floor}, []api.Object{a.Object}, []string{a.Where, a.Next}
	for _, x := range a.Items {
		revs, objects, lines = append(revs, x.Rev), append(objects, x.Object), append(lines, x.Name)
	}
	for _, x := range a.Events {
		revs, objects, lines = append(revs, x.Rev), append(objects, x.Object), append(lines, x.Name)
		if x.Kind < 1 || x.Kind > 3 {
			return false
		}
	}
	for _, n := range revs {
		if !within(n, 0, 9007199254740991) {
			return false
		}
	}
	for _, o := range objects {
		if value.Depth(o.Value) < 0 || managers.Check(o.Entries) != api.OK {
			return false
		}
	}
	for _, s := range lines {
		if !utf8.ValidString(s) {
			return false
		}
	}
	return len(a.Where) <= 4096 && (a.Class != 10 || wantCollide(a.Conflicts))
}

// wantCollide tells whether conflicts may be.
func wantCollide(l []api.Conflict) bool {
	for _, c := range l {
		if path.Check(c.Path) != api.OK {
			return false
		}
	}
	for i := range l {
		if i > 0 && conflictBytes(l[i-1]) >= conflictBytes(l[i]) {
			return false
		}
	}
	return len(l) > 0 && managers.Check(grouped(l)) == api.OK
}

// grouped is conflicts as entries: for each manager and way all its paths.
func grouped(l []api.Conflict) []api.Entry {
	var to []api.Entry
	for _, c := range l {
		of := func(x api.Entry) bool { return x.Manager == c.Manager && x.Way == c.Way }
		if !slices.ContainsFunc(to, of) {
			to = append(to, api.Entry{Manager: c.Manager, Way: c.Way})
		}
		x := &to[slices.IndexFunc(to, of)]
		x.Fields = append(x.Fields, c.Path)
	}
	sort.Slice(to, func(i, k int) bool {
		return to[i].Manager < to[k].Manager || to[i].Manager == to[k].Manager && to[i].Way < to[k].Way
	})
	return to
}

// wantTold is the map of an object's members and some more.
func wantTold(o api.Object, members map[string]api.Value) (api.Value, api.Errno) {
	owners, e := managers.Encode(o.Entries)
	members["owners"], members["value"] = owners, o.Value
	return mapOf(members), e
}

func wantAnswer(a api.Answer) ([]byte, api.Errno) {
	if !wantMayBe(a) {
		return nil, api.ErrRequest
	}
	owners, e := managers.Encode(slices.Concat(a.Object.Entries, grouped(a.Conflicts))) // of one of the two there are none
	if e != api.OK {
		return nil, e
	}
	items, events := list(), list()
	for _, x := range a.Items {
		v, e := wantTold(x.Object, map[string]api.Value{"name": str(x.Name), "revision": num(x.Rev)})
		if e != api.OK {
			return nil, e
		}
		items.List = append(items.List, v)
	}
	for _, x := range a.Events {
		v, e := wantTold(x.Object, map[string]api.Value{"key": str(x.Name), "revision": num(x.Rev), "event": str(eventWords[x.Kind])})
		if e != api.OK {
			return nil, e
		}
		events.List = append(events.List, v)
	}
	all := map[string]api.Value{"conflicts": owners, "events": events, "floor": num(a.Floor), "items": items, "next": str(a.Next), "owners": owners, "revision": num(a.Rev), "value": a.Object.Value, "where": str(a.Where)}
	members := map[string]api.Value{"class": str(classWords[a.Class])}
	keys, _ := keysOf(a.Class, a.Op)
	for _, key := range keys {
		members[key] = all[key]
	}
	return json.Print(mapOf(members), 40)
}

// reader reads the members of a map strictly, and remembers whether something could not be read.
type reader struct{ wrong bool }

// keyed is the members of a map that has just these keys.
func (d *reader) keyed(v api.Value, keys ...string) map[string]api.Value {
	members := map[string]api.Value{}
	for _, m := range v.Map {
		members[m.Key] = m.Val
	}
	for _, key := range keys {
		if _, is := members[key]; !is {
			d.wrong = true
		}
	}
	d.wrong = d.wrong || v.Kind != api.Map || len(members) != len(keys)
	return members
}

func (d *reader) rev(v api.Value) int {
	d.wrong = d.wrong || v.Kind != api.Int || !within(v.Int, 0, 9007199254740991)
	return v.Int
}

func (d *reader) line(v api.Value) string {
	d.wrong = d.wrong || v.Kind != api.Str
	return v.Str
}

func (d *reader) rows(v api.Value) []api.Value {
	d.wrong = d.wrong || v.Kind != api.List
	return v.List
}

func (d *reader) owners(v api.Value) []api.Entry {
	l, e := managers.Decode(v)
	d.wrong = d.wrong || e != api.OK
	return l
}

func (d *reader) collisions(v api.Value) []api.Conflict {
	var l []api.Conflict
	for _, x := range d.owners(v) {
		for _, p := range x.Fields {
			l = append(l, api.Conflict{Manager: x.Manager, Way: x.Way, Path: p})
		}
	}
	sort.Slice(l, func(i, k int) bool { return conflictBytes(l[i]) < conflictBytes(l[k]) })
	d.wrong = d.wrong || len(l) == 0
	return l
}

func wantRead(b []byte) (api.Answer, api.Errno) {
	v, _, e := json.Parse(b, 40)
	if e != api.OK {
		return api.Answer{}, e
	}
	canon, _ := json.Print(v, 40)
	class, _ := value.Get(v, "class")
	for _, row := range rows(answerRows) {
		var d reader
		keys := strings.Fields(row[2])
		m := d.keyed(v, append(keys, "class")...)
		if d.wrong || class.Kind != api.Str || class.Str != row[0] {
			continue
		}
		a := api.Answer{Class: index(classWords, row[0])}
		fmt.Sscan(row[1], &a.Op)
		a.There = a.Op == 1
		for _, key := range keys {
			d.read(&a, key, m[key])
		}
		if !d.wrong && string(canon) == string(b) && len(a.Where) <= 4096 {
			return a, api.OK
		}
	}
	return api.Answer{}, api.ErrRequest
}

// read puts what a member tells into an answer.
func (d *reader) read(a *api.Answer, key string, v api.Value) {
	switch key {
	case "conflicts":
		a.Conflicts = d.collisions(v)
	case "floor":
		a.Floor = d.rev(v)
	case "next":
		a.Next = d.line(v)
	case "owners":
		a.Object.Entries = d.owners(v)
	case "revision":
		a.Rev = d.rev(v)
	case "value":
		a.Object.Value = v
	case "where":
		a.Where = d.line(v)
	case "items":
		for _, x := range d.rows(v) {
			m := d.keyed(x, "name", "owners", "revision", "value")
			a.Items = append(a.Items, api.Found{Name: d.line(m["name"]), Rev: d.rev(m["revision"]), Object: api.Object{Value: m["value"], Entries: d.owners(m["owners"])}})
		}
	case "events":
		for _, x := range d.rows(v) {
			m := d.keyed(x, "event", "key", "owners", "revision", "value")
			kind := index(eventWords, d.line(m["event"]))
			d.wrong = d.wrong || kind == 0
			a.Events = append(a.Events, api.Seen{Kind: kind, Name: d.line(m["key"]), Rev: d.rev(m["revision"]), Object: api.Object{Value: m["value"], Entries: d.owners(m["owners"])}})
		}
	}
}

// The bytes of a path keep its order; those of a string end with 0 1, and a 0 within is 0 255. What stands behind a path begins with a 0, which no element's bytes do: so it is ordered by the path first, the shorter one ahead.
func stringBytes(s string) string { return strings.ReplaceAll(s, "\x00", "\x00\xff") + "\x00\x01" }

func scalarBytes(v api.Value) string {
	switch {
	case v.Kind == api.Bool && v.Bool:
		return "\x02"
	case v.Kind == api.Bool:
		return "\x01"
	case v.Kind == api.Int:
		return fmt.Sprintf("\x03%020d", uint64(v.Int)^(1<<63))
	}
	return "\x04" + stringBytes(v.Str)
}

func elemBytes(e api.Elem) string {
	switch e.Kind {
	case api.ElemField:
		return "\x01" + stringBytes(e.Name)
	case api.ElemKey:
		s := "\x02"
		for _, m := range e.Key {
			s += "\x01" + stringBytes(m.Key) + scalarBytes(m.Val)
		}
		return s + "\x00"
	}
	return "\x03" + scalarBytes(e.Item)
}

func conflictBytes(c api.Conflict) string {
	s := ""
	for _, e := range c.Path {
		s += elemBytes(e)
	}
	return s + "\x00" + stringBytes(c.Manager) + string(rune('a'+c.Way))
}

func num(n int) api.Value                 { return api.Value{Kind: api.Int, Int: n} }
func str(s string) api.Value              { return api.Value{Kind: api.Str, Str: s} }
func yes(b bool) api.Value                { return api.Value{Kind: api.Bool, Bool: b} }
func list(l ...api.Value) api.Value       { return api.Value{Kind: api.List, List: l} }
func object(l ...api.Member) api.Value    { return api.Value{Kind: api.Map, Map: l} }
func at(k string, v api.Value) api.Member { return api.Member{Key: k, Val: v} }

// read is the value of a text.
func read(s string) api.Value {
	v, _, e := json.Parse([]byte(s), api.DeepRecord)
	if e != api.OK {
		panic(s)
	}
	return v
}

// deep is a value so deep.
func deep(n int) api.Value { return read(strings.Repeat("[", n) + "1" + strings.Repeat("]", n)) }

// way is the path of a text.
func way(s string) api.Path {
	p, _, e := path.Parse(s)
	if e != api.OK {
		panic(s)
	}
	return p
}

// entry is an entry by the texts of its paths.
func entry(manager string, by int, l ...string) api.Entry {
	x := api.Entry{Manager: manager, Way: by}
	for _, s := range l {
		x.Fields = append(x.Fields, way(s))
	}
	return x
}

// conflict is a conflict by the text of its path.
func conflict(manager string, by int, p string) api.Conflict {
	return api.Conflict{Manager: manager, Way: by, Path: way(p)}
}

// of is the object of a value's text and some entries.
func of(v string, l ...api.Entry) api.Object { return api.Object{Value: read(v), Entries: l} }

// cut is a thing as a test tells it.
func cut(x any) string {
	s := fmt.Sprintf("%+v", x)
	if b, is := x.([]byte); is {
		s = string(b)
	}
	if len(s) > 1500 {
		return fmt.Sprintf("%s .. (%d bytes)", s[:300], len(s))
	}
	return s
}

// same tells whether two things of package api are the same, where nil and empty lists are.
func same(a, b any) bool { return sameOf(reflect.ValueOf(a), reflect.ValueOf(b)) }

func sameOf(a, b reflect.Value) bool {
	switch a.Kind() {
	case reflect.Slice:
		if a.Len() != b.Len() {
			return false
		}
		for i := range a.Len() {
			if !sameOf(a.Index(i), b.Index(i)) {
				return false
			}
		}
		return true
	case reflect.Struct:
		for i := range a.NumField() {
			if !sameOf(a.Field(i), b.Field(i)) {
				return false
			}
		}
		return true
	}
	return a.Equal(b)
}

// hold holds an answer and its error against those of the second reading.
func hold[T any](t *testing.T, x T, e api.Errno, want T, f api.Errno, call string, given any) {
	t.Helper()
	if e != f || !same(x, want) {
		t.Fatalf("%s of %s = %s, %d, want %s, %d", call, cut(given), cut(x), e, cut(want), f)
	}
}

// checkParse holds Parse, and P22.4 of what it reads.
func checkParse(t *testing.T, b []byte) (api.Request, int, api.Errno) {
	t.Helper()
	r, class, e := Parse(b)
	want, c, f := wantParse(b)
	hold(t, r, e, want, f, "P22.1: Parse", b)
	if class != c {
		t.Fatalf("P22.1: Parse of %s: class %d, want %d", cut(b), class, c)
	}
	if e != api.OK {
		return r, class, e
	}
	printed, e := Print(r)
	back, _, f := Parse(printed)
	if e != api.OK || f != api.OK || !same(back, r) || len(printed) > len(b) {
		t.Fatalf("P22.4: %s is read as %s, printed as %s, %d", cut(b), cut(r), cut(printed), e)
	}
	return r, class, api.OK
}

// checkPrint holds Print, and P22.4 of what it writes.
func checkPrint(t *testing.T, r api.Request) ([]byte, api.Errno) {
	t.Helper()
	b, e := Print(r)
	want, f := wantPrint(r)
	hold(t, b, e, want, f, "P22.2: Print", r)
	if e == api.OK {
		if back, _, f := checkParse(t, b); f != api.OK || !same(back, r) {
			t.Fatalf("P22.4: %s is printed as %s, read as %s, %d", cut(r), cut(b), cut(back), f)
		}
	}
	return b, e
}

// checkAnswer holds Answer, and P22.4 of what it writes.
func checkAnswer(t *testing.T, a api.Answer) ([]byte, api.Errno) {
	t.Helper()
	b, e := Answer(a)
	want, f := wantAnswer(a)
	hold(t, b, e, want, f, "P22.3: Answer", a)
	if e == api.OK {
		if back, f := ReadAnswer(b); f != api.OK || !same(back, a) {
			t.Fatalf("P22.4: %s is written as %s, read as %s, %d", cut(a), cut(b), cut(back), f)
		}
	}
	return b, e
}

// checkRead holds ReadAnswer, and P22.4 of what it reads.
func checkRead(t *testing.T, b []byte) (api.Answer, api.Errno) {
	t.Helper()
	a, e := ReadAnswer(b)
	want, f := wantRead(b)
	hold(t, a, e, want, f, "P22.3: ReadAnswer", b)
	if e == api.OK {
		if back, f := Answer(a); f != api.OK || string(back) != string(b) {
			t.Fatalf("P22.4: %s is read as %s, written as %s, %d", cut(b), cut(a), cut(back), f)
		}
	}
	return a, e
}

// pickOf is one of some things.
func pickOf[T any](r *rand.Rand, l ...T) T { return l[r.Intn(len(l))] }

// pickText is a text; some are long, or look like something else.
func pickText(r *rand.Rand) string {
	return pickOf(r, "", "a", "ab", "\u00e9", "\x00", "\"\\/", "a b", "null", "{}", "\u2028", "x/y", strings.Repeat("n", r.Intn(100)))
}

// pickValue is a value of any sort.
func pickValue(r *rand.Rand, depth int) api.Value {
	switch n := r.Intn(8); {
	case n < 2 && depth > 0:
		v := list()
		for range r.Intn(4) {
			v.List = append(v.List, pickValue(r, depth-1))
		}
		return v
	case n < 5 && depth > 0:
		v := object()
		for _, key := range []string{"", "a", "b", "op", "\u00e9"} {
			if r.Intn(3) == 0 {
				v.Map = append(v.Map, at(key, pickValue(r, depth-1)))
			}
		}
		return v
	}
	return pickOf(r, api.Value{}, yes(false), yes(true), num(0), num(r.Intn(99)-50), num(math.MinInt64), str(pickText(r)))
}

// pickRev is a revision from 0 on, often one near a bound.
func pickRev(r *rand.Rand) int {
	return pickOf(r, 0, 1, 2, r.Intn(1000), 9007199254740990, 9007199254740991)
}

func pickName(r *rand.Rand) string {
	return pickOf(r, "x", "0", "a.b-_c", "A9", strings.Repeat("z", 1+r.Intn(64)))
}

func pickKind(r *rand.Rand) string {
	return pickOf(r, "app", "a", "Z", "a-_9", strings.Repeat("k", 1+r.Intn(64)))
}

func pickManager(r *rand.Rand) string {
	return pickOf(r, "m", "n", "ann", "\x00", "\u00e9 \"", "/", strings.Repeat("m", 1+r.Intn(64)))
}

// pickRequest is a request.
func pickRequest(r *rand.Rand) api.Request {
	row := rows(requestRows)[r.Intn(10)]
	x := api.Request{Op: index(opWords, row[0])}
	keys := strings.Fields(row[1])
	for _, key := range strings.Fields(row[2]) {
		if r.Intn(2) == 0 {
			keys = append(keys, key)
		}
	}
	for _, key := range keys {
		switch key {
		case "after":
			x.After = pickRev(r)
		case "body":
			x.Body = pickValue(r, 4)
		case "continue":
			x.Continue = pickText(r)
		case "force":
			x.Force = true
		case "kind":
			x.Kind = pickKind(r)
		case "limit":
			x.Limit = pickOf(r, 1, 2, 499, 500, 1+r.Intn(500))
		case "manager":
			x.Manager = pickManager(r)
		case "name":
			x.Name = pickName(r)
		case "revision":
			x.Rev = 1 + pickRev(r)/2
		case "selector":
			x.Selector = pickText(r)
		}
	}
	return x
}

// pickPath is a path.
func pickPath(r *rand.Rand) api.Path {
	var p api.Path
	for range r.Intn(4) {
		p = append(p, pickOf(r, way(".a"), way(".b"), way(`."a b"`), way("[id=1]"), way(`[id=1,k="x"]`), way("[=false]"), way(`[="\u0000"]`))...)
	}
	return p
}

// pickPaths is a set of paths, at least one.
func pickPaths(r *rand.Rand) []api.Path {
	l := []api.Path{pickPath(r)}
	for range r.Intn(5) {
		l = append(l, pickPath(r))
	}
	l, e := path.Sort(l)
	if e != api.OK {
		panic(e)
	}
	return l
}

// pickEntries is entries that may be.
func pickEntries(r *rand.Rand) []api.Entry {
	var l []api.Entry
	for range r.Intn(5) {
		if more, e := managers.With(l, pickManager(r), 1+r.Intn(2), pickPaths(r)); e == api.OK {
			l = more
		}
	}
	return l
}

// pickObject is an object; of what kind it is nobody asks.
func pickObject(r *rand.Rand) api.Object {
	return api.Object{Value: pickValue(r, 4), Entries: pickEntries(r)}
}

// pickConflicts is conflicts that may be.
func pickConflicts(r *rand.Rand) []api.Conflict {
	var l []api.Conflict
	for len(l) == 0 {
		for _, x := range pickEntries(r) {
			for _, p := range x.Fields {
				l = append(l, api.Conflict{Manager: x.Manager, Way: x.Way, Path: p})
			}
		}
	}
	sort.Slice(l, func(i, k int) bool { return conflictBytes(l[i]) < conflictBytes(l[k]) })
	return l
}

// pickAnswer is an answer that may be.
func pickAnswer(r *rand.Rand) api.Answer {
	row := pickOf(r, rows(answerRows)[:8]...) // of those that tell nothing more than their class one is enough
	a := api.Answer{Class: index(classWords, row[0])}
	fmt.Sscan(row[1], &a.Op)
	a.There = a.Op == 1
	for _, key := range strings.Fields(row[2]) {
		switch key {
		case "conflicts":
			a.Conflicts = pickConflicts(r)
		case "events":
			for range r.Intn(5) {
				a.Events = append(a.Events, api.Seen{Rev: pickRev(r), Kind: 1 + r.Intn(3), Name: pickText(r), Object: pickObject(r)})
			}
		case "floor":
			a.Floor = pickRev(r)
		case "items":
			for range r.Intn(5) {
				a.Items = append(a.Items, api.Found{Rev: pickRev(r), Name: pickText(r), Object: pickObject(r)})
			}
		case "next":
			a.Next = pickText(r)
		case "owners":
			a.Object.Entries = pickEntries(r)
		case "revision":
			a.Rev = pickRev(r)
		case "value":
			a.Object.Value = pickValue(r, 4)
		case "where":
			a.Where = pickText(r)
		}
	}
	return a
}

// spoil changes one thing somewhere within a thing of package api: a number, a text, a truth, or how many a list has.
func spoil[T any](r *rand.Rand, x T) T {
	x = roomy(x)
	spoilOf(r, reflect.ValueOf(&x).Elem())
	return x
}

func spoilOf(r *rand.Rand, v reflect.Value) {
	switch v.Kind() {
	case reflect.Int:
		v.SetInt(pickOf(r, -1, 0, 1, 2, 3, v.Int()+1, v.Int()-1, 500, 501, 1<<53-1, 1<<53))
	case reflect.String:
		v.SetString(pickOf(r, "", "\xff", "q", v.String()+"q", v.String()+"/", strings.Repeat("q", 64), strings.Repeat("q", 65), strings.Repeat("q", 4097)))
	case reflect.Bool:
		v.SetBool(!v.Bool())
	case reflect.Struct:
		spoilOf(r, v.Field(r.Intn(v.NumField())))
	case reflect.Slice:
		spoilList(r, v)
	}
}

func spoilList(r *rand.Rand, v reflect.Value) {
	n := v.Len()
	switch c := r.Intn(8); {
	case n == 0 || c == 0:
		v.Set(reflect.Append(v, reflect.Zero(v.Type().Elem())))
	case c == 1:
		v.SetLen(n - 1)
	case c == 2:
		v.Set(reflect.Append(v, v.Index(r.Intn(n))))
	case c == 3:
		reflect.Swapper(v.Interface())(r.Intn(n), r.Intn(n))
	default:
		spoilOf(r, v.Index(r.Intn(n)))
	}
}

// room is the memory of a list, its spare room too.
type room struct{ from, to uintptr }

// rooms is the memory of all lists within things.
func rooms(l ...any) []room {
	var out []room
	for _, x := range l {
		out = append(out, roomsOf(reflect.ValueOf(x))...)
	}
	return out
}

func roomsOf(v reflect.Value) []room {
	var l []room
	switch v.Kind() {
	case reflect.Slice:
		if v.Cap() > 0 {
			l = append(l, room{v.Pointer(), v.Pointer() + uintptr(v.Cap())*v.Type().Elem().Size()})
		}
		for i := range v.Len() {
			l = append(l, roomsOf(v.Index(i))...)
		}
	case reflect.Struct:
		for i := range v.NumField() {
			l = append(l, roomsOf(v.Field(i))...)
		}
	}
	return l
}

// checkApart holds rooms against each other: no two may have memory in common.
func checkApart(t *testing.T, l []room) {
	t.Helper()
	sort.Slice(l, func(i, k int) bool { return l[i].from < l[k].from })
	for i := 1; i < len(l); i++ {
		if l[i].from < l[i-1].to {
			t.Fatal("P22.5: two lists share memory")
		}
	}
}

// roomy is a thing in memory of its own whose lists have spare room, with something in it; empty lists too.
func roomy[T any](x T) T { return roomyOf(reflect.ValueOf(x)).Interface().(T) }

func roomyOf(v reflect.Value) reflect.Value {
	to := reflect.New(v.Type()).Elem()
	switch v.Kind() {
	case reflect.Slice:
		to.Set(reflect.MakeSlice(v.Type(), v.Len()+2, v.Len()+2))
		for i := range v.Len() {
			to.Index(i).Set(roomyOf(v.Index(i)))
		}
		for i := v.Len(); i < to.Len(); i++ {
			mark(to.Index(i))
		}
		to.SetLen(v.Len())
	case reflect.Struct:
		for i := range v.NumField() {
			to.Field(i).Set(roomyOf(v.Field(i)))
		}
	default:
		to.Set(v)
	}
	return to
}

// mark writes something into all strings and numbers of a thing.
func mark(v reflect.Value) {
	switch v.Kind() {
	case reflect.String:
		v.SetString("scribble")
	case reflect.Int:
		v.SetInt(77)
	case reflect.Uint8:
		v.SetUint(77)
	case reflect.Struct:
		for i := range v.NumField() {
			mark(v.Field(i))
		}
	}
}

// whole tells a thing with the spare room of its lists as if it were part of them, and where they lie.
func whole(x any) string { return fmt.Sprint(wholeOf(reflect.ValueOf(x))) }

func wholeOf(v reflect.Value) any {
	l := []any{}
	switch v.Kind() {
	case reflect.Slice:
		if v.Cap() > 0 {
			l = append(l, v.Pointer())
		}
		v = v.Slice(0, v.Cap())
		for i := range v.Len() {
			l = append(l, wholeOf(v.Index(i)))
		}
		return l
	case reflect.Struct:
		for i := range v.NumField() {
			l = append(l, wholeOf(v.Field(i)))
		}
		return l
	}
	return fmt.Sprintf("%#v", v.Interface())
}

// scribble writes over all that a thing's lists hold, spare room too.
func scribble(x any) { scribbleOf(reflect.ValueOf(x)) }

func scribbleOf(v reflect.Value) {
	switch v.Kind() {
	case reflect.Slice:
		v = v.Slice(0, v.Cap())
		for i := range v.Len() {
			scribbleOf(v.Index(i))
			mark(v.Index(i))
		}
	case reflect.Struct:
		for i := range v.NumField() {
			scribbleOf(v.Field(i))
		}
	}
}
