package fields

import (
	"fmt"
	"math"
	"math/rand"
	"reflect"
	"slices"
	"sort"
	"strings"
	"testing"
	"unicode/utf8"

	"freehold/api"
	"freehold/path"
	"freehold/value"
)

// What the tests hold the package against, written from the words of the chapter in another way than the package's own: of a set all beginnings of its paths are gathered, each with the texts of its elements, and the value is asked from them place by place; a value is the value of a set, if that of all paths which it may be said to tell is the value itself.

func num(n int) api.Value                 { return api.Value{Kind: api.Int, Int: n} }
func text(s string) api.Value             { return api.Value{Kind: api.Str, Str: s} }
func truth(b bool) api.Value              { return api.Value{Kind: api.Bool, Bool: b} }
func at(k string, v api.Value) api.Member { return api.Member{Key: k, Val: v} }

func field(name string) api.Elem   { return api.Elem{Kind: api.ElemField, Name: name} }
func key(l ...api.Member) api.Elem { return api.Elem{Kind: api.ElemKey, Key: l} }
func item(v api.Value) api.Elem    { return api.Elem{Kind: api.ElemItem, Item: v} }

// steps is a path of fields.
func steps(names ...string) api.Path {
	var p api.Path
	for _, s := range names {
		p = append(p, field(s))
	}
	return p
}

// show is some paths as a test tells them.
func show(l ...api.Path) string {
	if len(l) > 100 {
		return fmt.Sprintf("%d paths", len(l))
	}
	return short(fmt.Sprintf("%+v", l))
}

// same tells whether two things of package api are the same, where nil and empty lists are.
func same(a, b any) bool { return sameOf(reflect.ValueOf(a), reflect.ValueOf(b)) }

func sameOf(a, b reflect.Value) bool {
	switch a.Kind() {
	case reflect.Slice:
		if a.Len() != b.Len() {
			return false
		}
		for i := range a.Len() {
			if !sameOf(a.Index(i), b.Index(i)) {
				return false
			}
		}
		return true
	case reflect.Struct:
		for i := range a.NumField() {
			if !sameOf(a.Field(i), b.Field(i)) {
				return false
			}
		}
		return true
	}
	return a.Equal(b)
}

// scalarIs tells whether a value is a scalar that is good and not too long.
func scalarIs(v api.Value) bool {
	only := map[int]api.Value{api.Bool: truth(v.Bool), api.Int: num(v.Int), api.Str: text(v.Str)}
	want, known := only[v.Kind]
	return known && same(v, want) && utf8.ValidString(v.Str) && len(v.Str) <= 1048576
}

func elemIs(e api.Elem) bool {
	only := map[int]api.Elem{api.ElemField: field(e.Name), api.ElemKey: key(e.Key...), api.ElemItem: item(e.Item)}
	want, known := only[e.Kind]
	if !known || !same(e, want) || !utf8.ValidString(e.Name) {
		return false
	}
	var names []string
	for _, m := range e.Key {
		if !scalarIs(m.Val) || !utf8.ValidString(m.Key) {
			return false
		}
		names = append(names, m.Key)
	}
	sorted := slices.Compact(slices.Sorted(slices.Values(names)))
	return slices.Equal(names, sorted) && len(names) <= 8 && (len(names) > 0 || e.Kind != api.ElemKey) && (e.Kind != api.ElemItem || scalarIs(e.Item))
}

func isPath(p api.Path) bool {
	wrong := slices.IndexFunc(p, func(e api.Elem) bool { return !elemIs(e) })
	return len(p) <= 32 && wrong < 0
}

// The bytes of a path keep its order: of two paths the one that stands first has the bytes that do, and those of a path begin those of another one just if it is above it. Each string ends with 0 1, and a 0 within is 0 255.
func stringBytes(s string) string { return strings.ReplaceAll(s, "\x00", "\x00\xff") + "\x00\x01" }

func scalarBytes(v api.Value) string {
	switch {
	case v.Kind == api.Bool && v.Bool:
		return "\x02"
	case v.Kind == api.Bool:
		return "\x01"
	case v.Kind == api.Int:
		return fmt.Sprintf("\x03%020d", uint64(v.Int)^(1<<63))
	}
	return "\x04" + stringBytes(v.Str)
}

func elemBytes(e api.Elem) string {
	switch e.Kind {
	case api.ElemField:
		return "\x01" + stringBytes(e.Name)
	case api.ElemKey:
		s := "\x02"
		for _, m := range e.Key {
			s += "\x01" + stringBytes(m.Key) + scalarBytes(m.Val)
		}
		return s + "\x00"
	}
	return "\x03" + scalarBytes(e.Item)
}

func pathBytes(p api.Path) string {
	s := ""
	for _, e := range p {
		s += elemBytes(e)
	}
	return s
}

// texts is the keys of a path's elements.
func texts(p api.Path) []string {
	var l []string
	for _, e := range p {
		s, _ := path.Text(api.Path{e})
		l = append(l, s)
	}
	return l
}

// place is the keys of a path as one string: a key has no byte 255.
func place(l []string) string { return strings.Join(l, "\xff") + "\xff" }

// told is what is known of a place: whether it is in the set, and which keys lead on.
type told struct {
	in   bool
	next map[string]bool
}

// places is all that the paths of a set say, by their places.
func places(l []api.Path) map[string]*told {
	all := map[string]*told{place(nil): {next: map[string]bool{}}}
	for _, p := range l {
		keys := texts(p)
		for n := range len(keys) + 1 {
			at := place(keys[:n])
			if all[at] == nil {
				all[at] = &told{next: map[string]bool{}}
			}
			if n < len(keys) {
				all[at].next[keys[n]] = true
			} else {
				all[at].in = true
			}
		}
	}
	return all
}

// valueOf is the value at a place.
func valueOf(all map[string]*told, keys []string) api.Value {
	x := all[place(keys)]
	v := api.Value{Kind: api.Map}
	var next []string
	for s := range x.next {
		next = append(next, s)
	}
	if x.in && (len(keys) == 0 || len(next) > 0) {
		next = append(next, ".")
	}
	sort.Strings(next)
	for _, s := range next {
		below := api.Value{Kind: api.Map}
		if s != "." {
			below = valueOf(all, append(slices.Clone(keys), s))
		}
		v.Map = append(v.Map, at(s, below))
	}
	return v
}

func wantCheck(l []api.Path) api.Errno {
	for i := range l {
		if !isPath(l[i]) {
			return api.ErrPath
		}
		if i > 0 && !(pathBytes(l[i-1]) < pathBytes(l[i])) {
			return api.ErrSet
		}
	}
	return api.OK
}

func wantEncode(l []api.Path) (api.Value, api.Errno) {
	if e := wantCheck(l); e != api.OK {
		return api.Value{}, e
	}
	v := valueOf(places(l), nil)
	if e := value.Check(v, 32); e != api.OK {
		return api.Value{}, e
	}
	return v, api.OK
}

// guesses is all paths that a value may be said to tell, whether it is the value of a set or not.
func guesses(v api.Value, way api.Path) []api.Path {
	var l []api.Path
	if len(v.Map) == 0 && len(way) > 0 {
		l = append(l, way)
	}
	for _, m := range v.Map {
		if m.Key == "." {
			l = append(l, way)
		}
		if p, _, e := path.Parse(m.Key); e == api.OK {
			l = append(l, guesses(m.Val, slices.Concat(way, p))...)
		}
	}
	return l
}

func wantDecode(v api.Value) ([]api.Path, api.Errno) {
	if e := value.Check(v, 32); e != api.OK {
		return nil, e
	}
	by := map[string]api.Path{}
	var names []string
	for _, p := range guesses(v, nil) {
		if b := pathBytes(p); by[b] == nil {
			by[b] = append(api.Path{}, p...)
			names = append(names, b)
		}
	}
	sort.Strings(names)
	var l []api.Path
	for _, b := range names {
		l = append(l, by[b])
	}
	if w, e := wantEncode(l); e != api.OK || !same(w, v) {
		return nil, api.ErrFields
	}
	return l, api.OK
}

// tell is a value as a test tells it.
func tell(v api.Value) string { return short(fmt.Sprintf("%+v", v)) }

func short(s string) string {
	if len(s) > 2000 {
		return fmt.Sprintf("%s .. (%d bytes)", s[:400], len(s))
	}
	return s
}

// checkEncode holds an answer of Encode against the second reading.
func checkEncode(t *testing.T, l []api.Path) (api.Value, api.Errno) {
	t.Helper()
	v, e := Encode(l)
	if want, f := wantEncode(l); e != f || !same(v, want) {
		t.Fatalf("P11.1: Encode(%s) = %s, %d, want %s, %d", show(l...), tell(v), e, tell(want), f)
	}
	return v, e
}

// checkDecode holds an answer of Decode against the second reading.
func checkDecode(t *testing.T, v api.Value) ([]api.Path, api.Errno) {
	t.Helper()
	l, e := Decode(v)
	if want, f := wantDecode(v); e != f || !same(l, want) {
		t.Fatalf("P11.2: Decode(%s) = %s, %d, want %s, %d", tell(v), show(l...), e, show(want...), f)
	}
	return l, e
}

// pickOf is one of some things.
func pickOf[T any](r *rand.Rand, l ...T) T { return l[r.Intn(len(l))] }

func pickName(r *rand.Rand) string {
	s := pickOf(r, "", "a", "a", "b", "ab", "_", "A-9", "a_", "Zz", "9", "-", "-a", "a b", "a.b", ".", "[", "]", "=", ",", "[=1]", "\"", "\\", "\x00", "\x1f", "\n", "\x7f", "\u00e9", "a\u00e9", "\u2028", "\U0001f600", "true", "null", "<", "@", "`", "{", "/", ":", "a/", "a:")
	if r.Intn(6) == 0 {
		s += pickName(r)
	}
	return s
}

func pickScalar(r *rand.Rand) api.Value {
	switch r.Intn(4) {
	case 0:
		return truth(r.Intn(2) == 0)
	case 1, 2:
		return num(pickOf(r, -10, -1, 0, 1, 2, 10, math.MaxInt64, math.MinInt64, r.Int()))
	}
	return text(pickName(r))
}

func pickElem(r *rand.Rand) api.Elem {
	switch r.Intn(4) {
	case 0:
		by := map[string]api.Value{}
		for range 1 + r.Intn(pickOf(r, 1, 3, 8)) {
			by[pickName(r)] = pickScalar(r)
		}
		e := key()
		for _, k := range sortedKeys(by) {
			e.Key = append(e.Key, at(k, by[k]))
		}
		return e
	case 1:
		return item(pickScalar(r))
	}
	return field(pickName(r))
}

func sortedKeys(by map[string]api.Value) []string {
	var l []string
	for k := range by {
		l = append(l, k)
	}
	sort.Strings(l)
	return l
}

func pickPath(r *rand.Rand) api.Path {
	var p api.Path
	for range r.Intn(pickOf(r, 2, 4, 6, 33)) {
		p = append(p, pickElem(r))
	}
	return p
}

// near is a path that has much in common with another one.
func near(r *rand.Rand, p api.Path) api.Path {
	q := roomy(p)
	switch r.Intn(4) {
	case 0:
		return q[:r.Intn(len(q)+1)]
	case 1:
		return append(q[:r.Intn(len(q)+1)], pickElem(r))
	case 2:
		if len(q) > 0 {
			nearElem(r, &q[r.Intn(len(q))])
		}
	}
	return q
}

// nearElem changes a little of an element, which may be none behind it.
func nearElem(r *rand.Rand, e *api.Elem) {
	switch {
	case e.Kind == api.ElemField:
		e.Name += pickOf(r, "", "a", "\x00", "-", " ")
	case e.Kind == api.ElemItem:
		e.Item = pickScalar(r)
	case len(e.Key) > 1 && r.Intn(3) == 0:
		e.Key = e.Key[:len(e.Key)-1]
	case len(e.Key) > 0 && r.Intn(2) == 0:
		e.Key[r.Intn(len(e.Key))].Val = pickScalar(r)
	default:
		e.Key = append(e.Key, at(pickName(r)+"\U0010ffff", pickScalar(r)))
	}
}

// spoil changes a path so that it is none, most of the times.
func spoil(r *rand.Rand, p api.Path) api.Path {
	q := roomy(p)
	if len(q) == 0 {
		return append(q, api.Elem{})
	}
	e := &q[r.Intn(len(q))]
	wrong := pickOf(r, api.Value{}, api.Value{Kind: api.List}, api.Value{Kind: api.Map}, api.Value{Kind: 6}, api.Value{Kind: -1}, text("\xc3"), api.Value{Kind: api.Int, Str: "a"}, api.Value{Kind: api.Bool, Int: 1}, api.Value{Kind: api.Str, Bool: true}, api.Value{Kind: api.Str, List: make([]api.Value, 1)}, api.Value{Kind: api.Int, Map: make([]api.Member, 1)})
	switch r.Intn(8) {
	case 0:
		e.Kind = pickOf(r, -1, 0, 1, 2, 3, 4)
	case 1:
		e.Name = pickOf(r, "a", "\xff", "a\xed\xa0\x80")
	case 2:
		e.Item = pickOf(r, wrong, pickScalar(r))
	case 3:
		e.Key = append(e.Key, at(pickName(r), pickScalar(r)))
	case 4:
		if len(e.Key) > 0 {
			e.Key[r.Intn(len(e.Key))].Val = wrong
		}
	case 5:
		if len(e.Key) > 0 {
			e.Key[r.Intn(len(e.Key))].Key = pickOf(r, "a", "b", "\xff", "")
		}
	case 6:
		if len(e.Key) > 0 {
			e.Key = append(e.Key, pickOf(r, e.Key...))
		}
	case 7:
		for range r.Intn(40) {
			q = append(q, pickElem(r))
		}
	}
	return q
}

// pickSet is a set of which many paths lie near each other.
func pickSet(r *rand.Rand, n int) []api.Path {
	by := map[string]api.Path{}
	var l []api.Path
	for range r.Intn(n + 1) {
		p := pickPath(r)
		if len(l) > 0 && r.Intn(4) > 0 {
			p = near(r, pickOf(r, l...))
		}
		if isPath(p) {
			l = append(l, p)
			by[pathBytes(p)] = p
		}
	}
	var names []string
	for b := range by {
		names = append(names, b)
	}
	sort.Strings(names)
	l = nil
	for _, b := range names {
		l = append(l, by[b])
	}
	return l
}

// room is the memory of a list, its spare room too.
type room struct{ from, to uintptr }

// rooms is the memory of all lists of a thing of package api.
func rooms(x any) []room { return roomsOf(reflect.ValueOf(x)) }

func roomsOf(v reflect.Value) []room {
	var l []room
	switch v.Kind() {
	case reflect.Slice:
		if v.Cap() > 0 {
			l = append(l, room{v.Pointer(), v.Pointer() + uintptr(v.Cap())*v.Type().Elem().Size()})
		}
		for i := range v.Len() {
			l = append(l, roomsOf(v.Index(i))...)
		}
	case reflect.Struct:
		for i := range v.NumField() {
			l = append(l, roomsOf(v.Field(i))...)
		}
	}
	return l
}

// checkApart holds rooms against each other: no two may have memory in common.
func checkApart(t *testing.T, what string, l []room) {
	t.Helper()
	sort.Slice(l, func(i, k int) bool { return l[i].from < l[k].from })
	for i := 1; i < len(l); i++ {
		if l[i].from < l[i-1].to {
			t.Fatalf("memory: %s: two lists share some", what)
		}
	}
}

// roomy is a thing of package api in memory of its own whose lists have spare room, with something in it; empty lists too.
func roomy[T any](x T) T { return roomyOf(reflect.ValueOf(x)).Interface().(T) }

func roomyOf(v reflect.Value) reflect.Value {
	to := reflect.New(v.Type()).Elem()
	switch v.Kind() {
	case reflect.Slice:
		to.Set(reflect.MakeSlice(v.Type(), v.Len()+2, v.Len()+2))
		for i := range v.Len() {
			to.Index(i).Set(roomyOf(v.Index(i)))
		}
		for i := v.Len(); i < to.Len(); i++ {
			mark(to.Index(i))
		}
		to.SetLen(v.Len())
	case reflect.Struct:
		for i := range v.NumField() {
			to.Field(i).Set(roomyOf(v.Field(i)))
		}
	default:
		to.Set(v)
	}
	return to
}

// mark writes something into all strings and numbers of a thing.
func mark(v reflect.Value) {
	switch v.Kind() {
	case reflect.String:
		v.SetString("scribble")
	case reflect.Int:
		v.SetInt(77)
	case reflect.Struct:
		for i := range v.NumField() {
			mark(v.Field(i))
		}
	}
}

// whole tells a thing with the spare room of its lists as if it were part of them.
func whole(x any) string { return fmt.Sprint(wholeOf(reflect.ValueOf(x))) }

func wholeOf(v reflect.Value) any {
	l := []any{}
	switch v.Kind() {
	case reflect.Slice:
		if v.Cap() > 0 {
			l = append(l, v.Pointer())
		}
		v = v.Slice(0, v.Cap())
		for i := range v.Len() {
			l = append(l, wholeOf(v.Index(i)))
		}
		return l
	case reflect.Struct:
		for i := range v.NumField() {
			l = append(l, wholeOf(v.Field(i)))
		}
		return l
	}
	return fmt.Sprintf("%#v", v.Interface())
}

// scribble writes over all that a thing's lists hold, spare room too.
func scribble(x any) { scribbleOf(reflect.ValueOf(x)) }

func scribbleOf(v reflect.Value) {
	switch v.Kind() {
	case reflect.Slice:
		v = v.Slice(0, v.Cap())
		for i := range v.Len() {
			scribbleOf(v.Index(i))
			mark(v.Index(i))
		}
	case reflect.Struct:
		for i := range v.NumField() {
			scribbleOf(v.Field(i))
		}
	}
}
