package managers

import (
	"fmt"
	"math"
	"math/rand"
	"reflect"
	"slices"
	"sort"
	"strings"
	"testing"
	"unicode/utf8"

	"freehold/api"
	"freehold/fields"
	"freehold/json"
	"freehold/path"
	"freehold/value"
)

// What the tests hold the package against, written from the words of the chapter in another way than the package's own: who has what is gathered as pairs of a name and a path, some of these are left out or put in, and entries are made of them anew; a value is that of entries, if what is guessed from it is written as that value.

func num(n int) api.Value                 { return api.Value{Kind: api.Int, Int: n} }
func str(s string) api.Value              { return api.Value{Kind: api.Str, Str: s} }
func truth(b bool) api.Value              { return api.Value{Kind: api.Bool, Bool: b} }
func at(k string, v api.Value) api.Member { return api.Member{Key: k, Val: v} }

func list(l ...api.Value) api.Value    { return api.Value{Kind: api.List, List: l} }
func object(l ...api.Member) api.Value { return api.Value{Kind: api.Map, Map: l} }

func field(name string) api.Elem   { return api.Elem{Kind: api.ElemField, Name: name} }
func key(l ...api.Member) api.Elem { return api.Elem{Kind: api.ElemKey, Key: l} }
func item(v api.Value) api.Elem    { return api.Elem{Kind: api.ElemItem, Item: v} }

// read is the value of a text.
func read(s string) api.Value {
	v, _, e := json.Parse([]byte(s), api.DeepRecord)
	if e != api.OK {
		panic(s)
	}
	return v
}

// set is the paths of texts.
func set(l ...string) []api.Path {
	var to []api.Path
	for _, s := range l {
		p, _, e := path.Parse(s)
		if e != api.OK {
			panic(s)
		}
		to = append(to, p)
	}
	return to
}

// entry is an entry by the texts of its paths.
func entry(manager string, way int, l ...string) api.Entry {
	return api.Entry{Manager: manager, Way: way, Fields: set(l...)}
}

// tell is a thing of package api as a test tells it.
func tell(x any) string {
	s := fmt.Sprintf("%+v", x)
	if len(s) > 2000 {
		return fmt.Sprintf("%s .. (%d bytes)", s[:400], len(s))
	}
	return s
}

// same tells whether two things of package api are the same, where nil and empty lists are.
func same(a, b any) bool { return sameOf(reflect.ValueOf(a), reflect.ValueOf(b)) }

func sameOf(a, b reflect.Value) bool {
	switch a.Kind() {
	case reflect.Slice:
		if a.Len() != b.Len() {
			return false
		}
		for i := range a.Len() {
			if !sameOf(a.Index(i), b.Index(i)) {
				return false
			}
		}
		return true
	case reflect.Struct:
		for i := range a.NumField() {
			if !sameOf(a.Field(i), b.Field(i)) {
				return false
			}
		}
		return true
	}
	return a.Equal(b)
}

// scalarIs tells whether a value is a scalar that is good and not too long.
func scalarIs(v api.Value) bool {
	only := map[int]api.Value{api.Bool: truth(v.Bool), api.Int: num(v.Int), api.Str: str(v.Str)}
	want, known := only[v.Kind]
	return known && same(v, want) && utf8.ValidString(v.Str) && len(v.Str) <= 1048576
}

func elemIs(e api.Elem) bool {
	only := map[int]api.Elem{api.ElemField: field(e.Name), api.ElemKey: key(e.Key...), api.ElemItem: item(e.Item)}
	want, known := only[e.Kind]
	if !known || !same(e, want) || !utf8.ValidString(e.Name) {
		return false
	}
	var names []string
	for _, m := range e.Key {
		if !scalarIs(m.Val) || !utf8.ValidString(m.Key) {
			return false
		}
		names = append(names, m.Key)
	}
	sorted := slices.Compact(slices.Sorted(slices.Values(names)))
	return slices.Equal(names, sorted) && len(names) <= 8 && (len(names) > 0 || e.Kind != api.ElemKey) && (e.Kind != api.ElemItem || scalarIs(e.Item))
}

func isPath(p api.Path) bool {
	wrong := slices.IndexFunc(p, func(e api.Elem) bool { return !elemIs(e) })
	return len(p) <= 32 && wrong < 0
}

// The bytes of a path keep its order: of two paths the one that stands first has the bytes that do, and those of a path begin those of another one just if it is above it. Each string ends with 0 1, and a 0 within is 0 255.
func stringBytes(s string) string { return strings.ReplaceAll(s, "\x00", "\x00\xff") + "\x00\x01" }

func scalarBytes(v api.Value) string {
	switch {
	case v.Kind == api.Bool && v.Bool:
		return "\x02"
	case v.Kind == api.Bool:
		return "\x01"
	case v.Kind == api.Int:
		return fmt.Sprintf("\x03%020d", uint64(v.Int)^(1<<63))
	}
	return "\x04" + stringBytes(v.Str)
}

func elemBytes(e api.Elem) string {
	switch e.Kind {
	case api.ElemField:
		return "\x01" + stringBytes(e.Name)
	case api.ElemKey:
		s := "\x02"
		for _, m := range e.Key {
			s += "\x01" + stringBytes(m.Key) + scalarBytes(m.Val)
		}
		return s + "\x00"
	}
	return "\x03" + scalarBytes(e.Item)
}

func pathBytes(p api.Path) string {
	s := ""
	for _, e := range p {
		s += elemBytes(e)
	}
	return s
}

// wantPaths is what is wrong with a set.
func wantPaths(l []api.Path) api.Errno {
	for i := range l {
		if !isPath(l[i]) {
			return api.ErrPath
		}
		if i > 0 && !(pathBytes(l[i-1]) < pathBytes(l[i])) {
			return api.ErrSet
		}
	}
	return api.OK
}

// wantName is what is wrong with a name.
func wantName(manager string, way int) api.Errno {
	switch {
	case manager == "" || len(manager) > 64 || strings.ToValidUTF8(manager, "") != manager:
		return api.ErrName
	case way < 1 || way > 2:
		return api.ErrEntries
	}
	return api.OK
}

// nameBytes keeps the order of names.
func nameBytes(x api.Entry) string { return stringBytes(x.Manager) + fmt.Sprint(x.Way) }

func wantCheck(l []api.Entry) api.Errno {
	last, had := "", map[string]bool{}
	for _, x := range l {
		if e := wantName(x.Manager, x.Way); e != api.OK {
			return e
		}
		if len(x.Fields) == 0 || nameBytes(x) <= last {
			return api.ErrEntries
		}
		if e := wantPaths(x.Fields); e != api.OK {
			return e
		}
		for _, p := range x.Fields {
			one := stringBytes(x.Manager) + pathBytes(p)
			if had[one] {
				return api.ErrEntries
			}
			had[one] = true
		}
		last = nameBytes(x)
	}
	if len(l) > 64 {
		return api.ErrManagers
	}
	return api.OK
}

// pair says that the entry of a name has a path; both stand as bytes that keep their order.
type pair struct{ name, path string }

// pairs is what some entries have, with what the bytes mean.
type pairs struct {
	has   map[pair]bool
	names map[string]api.Entry
	paths map[string]api.Path
}

func pairsOf(l []api.Entry) pairs {
	ps := pairs{map[pair]bool{}, map[string]api.Entry{}, map[string]api.Path{}}
	for _, x := range l {
		ps.put(x)
	}
	return ps
}

func (ps pairs) put(x api.Entry) {
	ps.names[nameBytes(x)] = api.Entry{Manager: x.Manager, Way: x.Way}
	for _, p := range x.Fields {
		ps.paths[pathBytes(p)] = p
		ps.has[pair{nameBytes(x), pathBytes(p)}] = true
	}
}

// but is the pairs without some.
func (ps pairs) but(out func(x pair) bool) pairs {
	left := pairs{map[pair]bool{}, ps.names, ps.paths}
	for x := range ps.has {
		if !out(x) {
			left.has[x] = true
		}
	}
	return left
}

// entries is pairs as entries.
func (ps pairs) entries() []api.Entry {
	var all []pair
	for x := range ps.has {
		all = append(all, x)
	}
	sort.Slice(all, func(i, k int) bool {
		return all[i].name < all[k].name || all[i].name == all[k].name && all[i].path < all[k].path
	})
	var l []api.Entry
	for i, x := range all {
		if i == 0 || all[i-1].name != x.name {
			l = append(l, ps.names[x.name])
		}
		last := &l[len(l)-1]
		last.Fields = append(last.Fields, ps.paths[x.path])
	}
	return l
}

func wantGet(l []api.Entry, manager string, way int) []api.Path {
	if wantCheck(l) != api.OK {
		return nil
	}
	name := nameBytes(api.Entry{Manager: manager, Way: way})
	for _, x := range pairsOf(l).but(func(x pair) bool { return x.name != name }).entries() {
		return x.Fields
	}
	return nil
}

func wantOwners(l []api.Entry, p api.Path) []api.Entry {
	if wantCheck(l) != api.OK || !isPath(p) {
		return nil
	}
	return pairsOf(l).but(func(x pair) bool { return x.path != pathBytes(p) }).entries()
}

func wantAll(l []api.Entry) ([]api.Path, api.Errno) {
	if e := wantCheck(l); e != api.OK {
		return nil, e
	}
	ps := pairsOf(nil)
	for _, x := range l {
		ps.put(api.Entry{Manager: "all", Fields: x.Fields})
	}
	for _, x := range ps.entries() {
		return x.Fields, api.OK
	}
	return nil, api.OK
}

func wantWith(l []api.Entry, manager string, way int, set []api.Path) ([]api.Entry, api.Errno) {
	for _, e := range []api.Errno{wantCheck(l), wantName(manager, way), wantPaths(set)} {
		if e != api.OK {
			return nil, e
		}
	}
	one := api.Entry{Manager: manager, Way: way, Fields: set}
	ps := pairsOf(l).but(func(x pair) bool { return x.name == nameBytes(one) })
	ps.put(one)
	m := ps.entries()
	if e := wantCheck(m); e != api.OK {
		return nil, e
	}
	return m, api.OK
}

func wantLose(l []api.Entry, set []api.Path, but api.Entry) ([]api.Entry, api.Errno) {
	for _, e := range []api.Errno{wantCheck(l), wantPaths(set)} {
		if e != api.OK {
			return nil, e
		}
	}
	lost := map[string]bool{}
	for _, p := range set {
		lost[pathBytes(p)] = true
	}
	return pairsOf(l).but(func(x pair) bool { return lost[x.path] && x.name != nameBytes(but) }).entries(), api.OK
}

func wantEncode(l []api.Entry) (api.Value, api.Errno) {
	if e := wantCheck(l); e != api.OK {
		return api.Value{}, e
	}
	v := list()
	for _, x := range l {
		set, e := fields.Encode(x.Fields)
		if e != api.OK {
			return api.Value{}, e
		}
		way := map[int]string{1: "apply", 2: "update"}[x.Way]
		v.List = append(v.List, object(at("fields", set), at("manager", str(x.Manager)), at("way", str(way))))
	}
	if e := value.Check(v, 40); e != api.OK {
		return api.Value{}, e
	}
	return v, api.OK
}

// guesses is the entries that a value may be said to tell, whether it is that of entries or not.
func guesses(v api.Value) []api.Entry {
	var l []api.Entry
	for _, x := range v.List {
		f, _ := value.Get(x, "fields")
		manager, _ := value.Get(x, "manager")
		way, _ := value.Get(x, "way")
		set, _ := fields.Decode(f)
		l = append(l, api.Entry{Manager: manager.Str, Way: map[string]int{"apply": 1, "update": 2}[way.Str], Fields: set})
	}
	return l
}

func wantDecode(v api.Value) ([]api.Entry, api.Errno) {
	if e := value.Check(v, 40); e != api.OK {
		return nil, e
	}
	l := guesses(v)
	if w, e := wantEncode(l); e != api.OK || !same(w, v) {
		return nil, api.ErrEntries
	}
	return l, api.OK
}

// hold holds an answer and its error against those of the second reading.
func hold[T any](t *testing.T, x T, e api.Errno, want T, f api.Errno, call string, given ...any) {
	t.Helper()
	if e != f || !same(x, want) {
		t.Fatalf("%s of %s = %s, %d, want %s, %d", call, tell(given), tell(x), e, tell(want), f)
	}
}

func checkCheck(t *testing.T, l []api.Entry) api.Errno {
	t.Helper()
	e := Check(l)
	hold(t, 0, e, 0, wantCheck(l), "P14.1: Check", l)
	return e
}

func checkGet(t *testing.T, l []api.Entry, manager string, way int) []api.Path {
	t.Helper()
	got := Get(l, manager, way)
	hold(t, got, 0, wantGet(l, manager, way), 0, "P14.2: Get", l, manager, way)
	return got
}

func checkOwners(t *testing.T, l []api.Entry, p api.Path) []api.Entry {
	t.Helper()
	got := Owners(l, p)
	hold(t, got, 0, wantOwners(l, p), 0, "P14.2: Owners", l, p)
	return got
}

func checkAll(t *testing.T, l []api.Entry) ([]api.Path, api.Errno) {
	t.Helper()
	got, e := All(l)
	want, f := wantAll(l)
	hold(t, got, e, want, f, "P14.2: All", l)
	return got, e
}

func checkWith(t *testing.T, l []api.Entry, manager string, way int, set []api.Path) ([]api.Entry, api.Errno) {
	t.Helper()
	got, e := With(l, manager, way, set)
	want, f := wantWith(l, manager, way, set)
	hold(t, got, e, want, f, "P14.3: With", l, manager, way, set)
	return got, e
}

func checkLose(t *testing.T, l []api.Entry, set []api.Path, but api.Entry) ([]api.Entry, api.Errno) {
	t.Helper()
	got, e := Lose(l, set, but)
	want, f := wantLose(l, set, but)
	hold(t, got, e, want, f, "P14.4: Lose", l, set, but)
	return got, e
}

func checkEncode(t *testing.T, l []api.Entry) (api.Value, api.Errno) {
	t.Helper()
	got, e := Encode(l)
	want, f := wantEncode(l)
	hold(t, got, e, want, f, "P14.5: Encode", l)
	return got, e
}

func checkDecode(t *testing.T, v api.Value) ([]api.Entry, api.Errno) {
	t.Helper()
	got, e := Decode(v)
	want, f := wantDecode(v)
	hold(t, got, e, want, f, "P14.5: Decode", v)
	return got, e
}

// pickOf is one of some things.
func pickOf[T any](r *rand.Rand, l ...T) T { return l[r.Intn(len(l))] }

func pickName(r *rand.Rand) string {
	s := pickOf(r, "", "a", "a", "b", "ab", "_", "A-9", "a_", "Zz", "9", "-", "-a", "a b", "a.b", ".", "[", "]", "=", ",", "[=1]", "\"", "\\", "\x00", "\x1f", "\n", "\x7f", "\u00e9", "a\u00e9", "\u2028", "\U0001f600", "true", "null", "<", "@", "`", "{", "/", ":", "a/", "a:")
	if r.Intn(6) == 0 {
		s += pickName(r)
	}
	return s
}

func pickScalar(r *rand.Rand) api.Value {
	switch r.Intn(4) {
	case 0:
		return truth(r.Intn(2) == 0)
	case 1, 2:
		return num(pickOf(r, -10, -1, 0, 1, 2, 10, math.MaxInt64, math.MinInt64, r.Int()))
	}
	return str(pickName(r))
}

func pickElem(r *rand.Rand) api.Elem {
	switch r.Intn(4) {
	case 0:
		by := map[string]api.Value{}
		for range 1 + r.Intn(pickOf(r, 1, 3, 8)) {
			by[pickName(r)] = pickScalar(r)
		}
		e := key()
		for _, k := range sortedKeys(by) {
			e.Key = append(e.Key, at(k, by[k]))
		}
		return e
	case 1:
		return item(pickScalar(r))
	}
	return field(pickName(r))
}

func sortedKeys(by map[string]api.Value) []string {
	var l []string
	for k := range by {
		l = append(l, k)
	}
	sort.Strings(l)
	return l
}

func pickPath(r *rand.Rand) api.Path {
	var p api.Path
	for range r.Intn(pickOf(r, 2, 4, 6, 33)) {
		p = append(p, pickElem(r))
	}
	return p
}

// near is a path that has much in common with another one.
func near(r *rand.Rand, p api.Path) api.Path {
	q := roomy(p)
	switch r.Intn(4) {
	case 0:
		return q[:r.Intn(len(q)+1)]
	case 1:
		return append(q[:r.Intn(len(q)+1)], pickElem(r))
	case 2:
		if len(q) > 0 {
			nearElem(r, &q[r.Intn(len(q))])
		}
	}
	return q
}

// nearElem changes a little of an element, which may be none behind it.
func nearElem(r *rand.Rand, e *api.Elem) {
	switch {
	case e.Kind == api.ElemField:
		e.Name += pickOf(r, "", "a", "\x00", "-", " ")
	case e.Kind == api.ElemItem:
		e.Item = pickScalar(r)
	case len(e.Key) > 1 && r.Intn(3) == 0:
		e.Key = e.Key[:len(e.Key)-1]
	case len(e.Key) > 0 && r.Intn(2) == 0:
		e.Key[r.Intn(len(e.Key))].Val = pickScalar(r)
	default:
		e.Key = append(e.Key, at(pickName(r)+"\U0010ffff", pickScalar(r)))
	}
}

// spoil changes a path so that it is none, most of the times.
func spoil(r *rand.Rand, p api.Path) api.Path {
	q := roomy(p)
	if len(q) == 0 {
		return append(q, api.Elem{})
	}
	e := &q[r.Intn(len(q))]
	wrong := pickOf(r, api.Value{}, api.Value{Kind: api.List}, api.Value{Kind: api.Map}, api.Value{Kind: 6}, api.Value{Kind: -1}, str("\xc3"), api.Value{Kind: api.Int, Str: "a"}, api.Value{Kind: api.Bool, Int: 1}, api.Value{Kind: api.Str, Bool: true}, api.Value{Kind: api.Str, List: make([]api.Value, 1)}, api.Value{Kind: api.Int, Map: make([]api.Member, 1)})
	switch r.Intn(8) {
	case 0:
		e.Kind = pickOf(r, -1, 0, 1, 2, 3, 4)
	case 1:
		e.Name = pickOf(r, "a", "\xff", "a\xed\xa0\x80")
	case 2:
		e.Item = pickOf(r, wrong, pickScalar(r))
	case 3:
		e.Key = append(e.Key, at(pickName(r), pickScalar(r)))
	case 4:
		if len(e.Key) > 0 {
			e.Key[r.Intn(len(e.Key))].Val = wrong
		}
	case 5:
		if len(e.Key) > 0 {
			e.Key[r.Intn(len(e.Key))].Key = pickOf(r, "a", "b", "\xff", "")
		}
	case 6:
		if len(e.Key) > 0 {
			e.Key = append(e.Key, pickOf(r, e.Key...))
		}
	case 7:
		for range r.Intn(40) {
			q = append(q, pickElem(r))
		}
	}
	return q
}

// pickSet is a set of which many paths lie near each other.
func pickSet(r *rand.Rand, n int) []api.Path {
	by := map[string]api.Path{}
	var l []api.Path
	for range r.Intn(n + 1) {
		p := pickPath(r)
		if len(l) > 0 && r.Intn(4) > 0 {
			p = near(r, pickOf(r, l...))
		}
		if isPath(p) {
			l = append(l, p)
			by[pathBytes(p)] = p
		}
	}
	var names []string
	for b := range by {
		names = append(names, b)
	}
	sort.Strings(names)
	l = nil
	for _, b := range names {
		l = append(l, by[b])
	}
	return l
}

// pickManager is the name of a manager that may be.
func pickManager(r *rand.Rand) string {
	return pickOf(r, "a", "a", "b", "ab", "a\x00", "a\x00\x01", "\x00", "A", "\u00e9", "\U0001f600", "kubectl", strings.Repeat("m", 64), strings.Repeat("m", 63), strings.Repeat("\u00e9", 32))
}

// pickEntries is entries that may be. Many of their paths are those of some sets, so that a path has many owners.
func pickEntries(r *rand.Rand, n int) []api.Entry {
	ps := pairsOf(nil)
	common := pickSet(r, 12)
	for range r.Intn(n + 1) {
		x := api.Entry{Manager: pickManager(r), Way: 1 + r.Intn(2)}
		other := nameBytes(api.Entry{Manager: x.Manager, Way: 3 - x.Way})
		for _, p := range slices.Concat(common, pickSet(r, 4)) {
			if r.Intn(2) == 0 && !ps.has[pair{other, pathBytes(p)}] {
				x.Fields = append(x.Fields, p)
			}
		}
		ps.put(x)
	}
	return ps.entries()
}

// pickLost is a set of paths of which many are owned.
func pickLost(r *rand.Rand, l []api.Entry) []api.Path {
	ps := pairsOf(nil)
	all := pickSet(r, 3)
	for _, x := range l {
		all = append(all, x.Fields...)
	}
	for _, p := range all {
		if r.Intn(3) > 0 {
			ps.put(api.Entry{Manager: "all", Fields: []api.Path{p}})
		}
	}
	for _, x := range ps.entries() {
		return x.Fields
	}
	return nil
}

// spoilEntries changes something of entries; most of the times they may not be behind it.
func spoilEntries(r *rand.Rand, l []api.Entry) []api.Entry {
	l = roomy(l)
	if len(l) == 0 {
		return []api.Entry{{Manager: pickManager(r), Way: r.Intn(4)}}
	}
	i, k := r.Intn(len(l)), r.Intn(len(l))
	x := &l[i]
	switch r.Intn(8) {
	case 0:
		x.Manager = pickOf(r, "", "\xff", "a\xed\xa0\x80", strings.Repeat("m", 65), strings.Repeat("\u00e9", 33), pickManager(r))
	case 1:
		x.Way = pickOf(r, -1, 0, 1, 2, 3, math.MaxInt)
	case 2:
		x.Fields = x.Fields[:r.Intn(len(x.Fields))]
	case 3:
		l[i], l[k] = l[k], l[i]
	case 4:
		l = append(l, l[k])
	case 5:
		x.Fields = roomy(l[k].Fields)
	case 6:
		n := r.Intn(len(x.Fields))
		x.Fields[n] = pickOf(r, spoil(r, x.Fields[n]), near(r, x.Fields[n]))
	case 7:
		x.Fields = append(x.Fields, pickOf(r, x.Fields...))
	}
	return l
}

// room is the memory of a list, its spare room too.
type room struct{ from, to uintptr }

// rooms is the memory of all lists of a thing of package api.
func rooms(x any) []room { return roomsOf(reflect.ValueOf(x)) }

func roomsOf(v reflect.Value) []room {
	var l []room
	switch v.Kind() {
	case reflect.Slice:
		if v.Cap() > 0 {
			l = append(l, room{v.Pointer(), v.Pointer() + uintptr(v.Cap())*v.Type().Elem().Size()})
		}
		for i := range v.Len() {
			l = append(l, roomsOf(v.Index(i))...)
		}
	case reflect.Struct:
		for i := range v.NumField() {
			l = append(l, roomsOf(v.Field(i))...)
		}
	}
	return l
}

// checkApart holds rooms against each other: no two may have memory in common.
func checkApart(t *testing.T, what string, l []room) {
	t.Helper()
	sort.Slice(l, func(i, k int) bool { return l[i].from < l[k].from })
	for i := 1; i < len(l); i++ {
		if l[i].from < l[i-1].to {
			t.Fatalf("memory: %s: two lists share some", what)
		}
	}
}

// roomy is a thing of package api in memory of its own whose lists have spare room, with something in it; empty lists too.
func roomy[T any](x T) T { return roomyOf(reflect.ValueOf(x)).Interface().(T) }

func roomyOf(v reflect.Value) reflect.Value {
	to := reflect.New(v.Type()).Elem()
	switch v.Kind() {
	case reflect.Slice:
		to.Set(reflect.MakeSlice(v.Type(), v.Len()+2, v.Len()+2))
		for i := range v.Len() {
			to.Index(i).Set(roomyOf(v.Index(i)))
		}
		for i := v.Len(); i < to.Len(); i++ {
			mark(to.Index(i))
		}
		to.SetLen(v.Len())
	case reflect.Struct:
		for i := range v.NumField() {
			to.Field(i).Set(roomyOf(v.Field(i)))
		}
	default:
		to.Set(v)
	}
	return to
}

// mark writes something into all strings and numbers of a thing.
func mark(v reflect.Value) {
	switch v.Kind() {
	case reflect.String:
		v.SetString("scribble")
	case reflect.Int:
		v.SetInt(77)
	case reflect.Struct:
		for i := range v.NumField() {
			mark(v.Field(i))
		}
	}
}

// whole tells a thing with the spare room of its lists as if it were part of them.
func whole(x any) string { return fmt.Sprint(wholeOf(reflect.ValueOf(x))) }

func wholeOf(v reflect.Value) any {
	l := []any{}
	switch v.Kind() {
	case reflect.Slice:
		if v.Cap() > 0 {
			l = append(l, v.Pointer())
		}
		v = v.Slice(0, v.Cap())
		for i := range v.Len() {
			l = append(l, wholeOf(v.Index(i)))
		}
		return l
	case reflect.Struct:
		for i := range v.NumField() {
			l = append(l, wholeOf(v.Field(i)))
		}
		return l
	}
	return fmt.Sprintf("%#v", v.Interface())
}

// scribble writes over all that a thing's lists hold, spare room too.
func scribble(x any) { scribbleOf(reflect.ValueOf(x)) }

func scribbleOf(v reflect.Value) {
	switch v.Kind() {
	case reflect.Slice:
		v = v.Slice(0, v.Cap())
		for i := range v.Len() {
			scribbleOf(v.Index(i))
			mark(v.Index(i))
		}
	case reflect.Struct:
		for i := range v.NumField() {
			scribbleOf(v.Field(i))
		}
	}
}
