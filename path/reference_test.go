package path

import (
	stdjson "encoding/json"
	"fmt"
	"math"
	"math/rand"
	"reflect"
	"regexp"
	"slices"
	"sort"
	"strconv"
	"strings"
	"testing"
	"unicode/utf8"

	"freehold/api"
)

// What the tests hold the package against, written from the words of the chapter and the page in other ways than the package's own: elements are made anew of what their kind uses and held against what they were, order is that of bytes that keep it, and texts are read by regular expressions that match none but what is written just so.

func num(n int) api.Value                 { return api.Value{Kind: api.Int, Int: n} }
func text(s string) api.Value             { return api.Value{Kind: api.Str, Str: s} }
func truth(b bool) api.Value              { return api.Value{Kind: api.Bool, Bool: b} }
func at(k string, v api.Value) api.Member { return api.Member{Key: k, Val: v} }

func field(name string) api.Elem   { return api.Elem{Kind: api.ElemField, Name: name} }
func key(l ...api.Member) api.Elem { return api.Elem{Kind: api.ElemKey, Key: l} }
func item(v api.Value) api.Elem    { return api.Elem{Kind: api.ElemItem, Item: v} }
func steps(names ...string) api.Path {
	return path(len(names), func(i int) api.Elem { return field(names[i]) })
}

// path is so many elements, each by its number.
func path(n int, of func(i int) api.Elem) api.Path {
	var p api.Path
	for i := range n {
		p = append(p, of(i))
	}
	return p
}

// show is a path as a test tells it.
func show(p api.Path) string {
	s := fmt.Sprintf("%+v", p)
	if len(s) > 2000 {
		return fmt.Sprintf("%s .. (%d bytes)", s[:200], len(s))
	}
	return s
}

// same tells whether two things of package api are the same, where nil and empty lists are.
func same(a, b any) bool { return sameOf(reflect.ValueOf(a), reflect.ValueOf(b)) }

func sameOf(a, b reflect.Value) bool {
	switch a.Kind() {
	case reflect.Slice:
		if a.Len() != b.Len() {
			return false
		}
		for i := range a.Len() {
			if !sameOf(a.Index(i), b.Index(i)) {
				return false
			}
		}
		return true
	case reflect.Struct:
		for i := range a.NumField() {
			if !sameOf(a.Field(i), b.Field(i)) {
				return false
			}
		}
		return true
	}
	return a.Equal(b)
}

// scalarIs tells whether a value is a scalar that is good and not too long.
func scalarIs(v api.Value) bool {
	only := map[int]api.Value{api.Bool: truth(v.Bool), api.Int: num(v.Int), api.Str: text(v.Str)}
	want, known := only[v.Kind]
	return known && same(v, want) && utf8.ValidString(v.Str) && len(v.Str) <= 1048576
}

func elemIs(e api.Elem) bool {
	only := map[int]api.Elem{api.ElemField: field(e.Name), api.ElemKey: key(e.Key...), api.ElemItem: item(e.Item)}
	want, known := only[e.Kind]
	if !known || !same(e, want) || !utf8.ValidString(e.Name) {
		return false
	}
	var names []string
	for _, m := range e.Key {
		if !scalarIs(m.Val) || !utf8.ValidString(m.Key) {
			return false
		}
		names = append(names, m.Key)
	}
	sorted := slices.Compact(slices.Sorted(slices.Values(names)))
	return slices.Equal(names, sorted) && len(names) <= 8 && (len(names) > 0 || e.Kind != api.ElemKey) && (e.Kind != api.ElemItem || scalarIs(e.Item))
}

func isPath(p api.Path) bool {
	wrong := slices.IndexFunc(p, func(e api.Elem) bool { return !elemIs(e) })
	return len(p) <= 32 && wrong < 0
}

// The bytes of a path keep its order: of two paths the one that stands first has the bytes that do, and those of a path begin those of another one just if it is above it. Each string ends with 0 1, and a 0 within is 0 255.
func stringBytes(s string) string { return strings.ReplaceAll(s, "\x00", "\x00\xff") + "\x00\x01" }

func scalarBytes(v api.Value) string {
	switch {
	case v.Kind == api.Bool && v.Bool:
		return "\x02"
	case v.Kind == api.Bool:
		return "\x01"
	case v.Kind == api.Int:
		return fmt.Sprintf("\x03%020d", uint64(v.Int)^(1<<63))
	}
	return "\x04" + stringBytes(v.Str)
}

func elemBytes(e api.Elem) string {
	switch e.Kind {
	case api.ElemField:
		return "\x01" + stringBytes(e.Name)
	case api.ElemKey:
		s := "\x02"
		for _, m := range e.Key {
			s += "\x01" + stringBytes(m.Key) + scalarBytes(m.Val)
		}
		return s + "\x00"
	}
	return "\x03" + scalarBytes(e.Item)
}

func pathBytes(p api.Path) string {
	s := ""
	for _, e := range p {
		s += elemBytes(e)
	}
	return s
}

func wantCompare(p, q api.Path) int {
	if !isPath(p) || !isPath(q) {
		return 0
	}
	return strings.Compare(pathBytes(p), pathBytes(q))
}

func wantAbove(p, q api.Path) bool {
	return isPath(p) && isPath(q) && strings.HasPrefix(pathBytes(q), pathBytes(p))
}

func wantSort(l []api.Path) ([]api.Path, api.Errno) {
	by := map[string]api.Path{}
	for _, p := range l {
		if !isPath(p) {
			return nil, api.ErrPath
		}
		by[pathBytes(p)] = p
	}
	var names []string
	for s := range by {
		names = append(names, s)
	}
	sort.Strings(names)
	var to []api.Path
	for _, s := range names {
		to = append(to, by[s])
	}
	return to, api.OK
}

// escapes is a row of what is written otherwise in a string, and how.
func escapes() []string {
	l := []string{"\\", "\\\\", "\"", "\\\"", "\b", "\\b", "\t", "\\t", "\n", "\\n", "\f", "\\f", "\r", "\\r"}
	for c := range 32 {
		if !slices.Contains([]int{8, 9, 10, 12, 13}, c) {
			l = append(l, string(rune(c)), fmt.Sprintf("\\u%04x", c))
		}
	}
	return l
}

const (
	plainForm  = `[A-Za-z_][A-Za-z0-9_-]*`
	quotedForm = `"(?:[^"\\\x00-\x1f]|\\["\\btnfr]|\\u00(?:0[0-7bef]|1[0-9a-f]))*"`
	nameForm   = `(?:` + plainForm + `|` + quotedForm + `)`
	scalarForm = `(?:true|false|0|-?[1-9][0-9]*|` + quotedForm + `)`
	memberForm = nameForm + `=` + scalarForm
)

var (
	asString    = strings.NewReplacer(escapes()...)
	isPlain     = regexp.MustCompile(`^` + plainForm + `$`)
	isQuoted    = regexp.MustCompile(`^` + quotedForm + `$`)
	fieldAhead  = regexp.MustCompile(`^\.(` + nameForm + `)`)
	itemAhead   = regexp.MustCompile(`^\[=(` + scalarForm + `)\]`)
	keyAhead    = regexp.MustCompile(`^\[` + memberForm + `(?:,` + memberForm + `)*\]`)
	memberAhead = regexp.MustCompile(`^[\[,](` + nameForm + `)=(` + scalarForm + `)`)
)

func wantName(s string) string {
	if isPlain.MatchString(s) {
		return s
	}
	return `"` + asString.Replace(s) + `"`
}

func wantScalar(v api.Value) string {
	return []string{"", strconv.FormatBool(v.Bool), fmt.Sprint(v.Int), `"` + asString.Replace(v.Str) + `"`}[v.Kind]
}

func wantElem(e api.Elem) string {
	var l []string
	for _, m := range e.Key {
		l = append(l, wantName(m.Key)+"="+wantScalar(m.Val))
	}
	return []string{"", "." + wantName(e.Name), "[" + strings.Join(l, ",") + "]", "[=" + wantScalar(e.Item) + "]"}[e.Kind]
}

func wantText(p api.Path) (string, api.Errno) {
	if !isPath(p) {
		return "", api.ErrPath
	}
	var l []string
	for _, e := range p {
		l = append(l, wantElem(e))
	}
	return strings.Join(l, ""), api.OK
}

// unquoted is the string of a text that the regular expression takes; false, if it is no UTF-8.
func unquoted(s string) (string, bool) {
	var to string
	if !utf8.ValidString(s) || stdjson.Unmarshal([]byte(s), &to) != nil {
		return "", false
	}
	return to, true
}

func readName(s string) (string, bool) {
	if isPlain.MatchString(s) {
		return s, true
	}
	name, ok := unquoted(s)
	return name, ok && !isPlain.MatchString(name)
}

func readScalar(s string) (api.Value, bool) {
	switch {
	case s == "true" || s == "false":
		return truth(s == "true"), true
	case s[0] == '"':
		to, ok := unquoted(s)
		return text(to), ok
	}
	var n int
	_, err := fmt.Sscan(s, &n)
	return num(n), err == nil
}

// readElem is the element that begins a text, and how long its text is; false, if there is none.
func readElem(s string) (api.Elem, int, bool) {
	if m := fieldAhead.FindStringSubmatch(s); m != nil {
		name, ok := readName(m[1])
		return field(name), len(m[0]), ok
	}
	if m := itemAhead.FindStringSubmatch(s); m != nil {
		v, ok := readScalar(m[1])
		return item(v), len(m[0]), ok
	}
	whole := keyAhead.FindString(s)
	e := key()
	for rest := whole; len(rest) > 1; {
		m := memberAhead.FindStringSubmatch(rest)
		name, ok := readName(m[1])
		v, is := readScalar(m[2])
		if !ok || !is {
			return e, 0, false
		}
		e.Key, rest = append(e.Key, at(name, v)), rest[len(m[0]):]
	}
	return e, len(whole), whole != ""
}

func wantParse(s string) (api.Path, int, api.Errno) {
	var p api.Path
	for at := 0; at < len(s); {
		e, n, ok := readElem(s[at:])
		if !ok || !elemIs(e) || len(p) == 32 {
			return nil, at, api.ErrPath
		}
		p, at = append(p, e), at+n
	}
	return p, -1, api.OK
}

// checkText holds Parse of a text, and all that follows of a path, against the second reading.
func checkText(t *testing.T, s string) api.Errno {
	t.Helper()
	p, place, e := Parse(s)
	want, where, f := wantParse(s)
	if e != f || place != where || !same(p, want) {
		t.Fatalf("P9.5: Parse(%.200q) = %s, %d, %d, want %s, %d, %d", s, show(p), place, e, show(want), where, f)
	}
	if e == api.OK {
		if back, g := Text(p); g != api.OK || back != s {
			t.Fatalf("P9.9: Text(%s) = %.200q, %d, and it was read from %.200q", show(p), back, g, s)
		}
	}
	return e
}

// checkPath holds the answers about one path against the second reading.
func checkPath(t *testing.T, p api.Path) bool {
	t.Helper()
	is := isPath(p)
	want := api.ErrPath
	if is {
		want = api.OK
	}
	if e := Check(p); e != want {
		t.Fatalf("P9.1: Check(%s) = %d", show(p), e)
	}
	s, e := Text(p)
	if written, f := wantText(p); s != written || e != f {
		t.Fatalf("P9.4: Text(%s) = %.200q, %d, want %.200q, %d", show(p), s, e, written, f)
	}
	if q, place, f := Parse(s); is && (!same(p, q) || place != -1 || f != api.OK) {
		t.Fatalf("P9.9: Parse of the text %.200q of %s: %s, %d, %d", s, show(p), show(q), place, f)
	}
	var front api.Path
	var end api.Elem
	if is = is && len(p) > 0; is {
		front, end = p[:len(p)-1], p[len(p)-1]
	}
	if q, last, ok := Last(p); ok != is || !same(q, front) || !same(last, end) {
		t.Fatalf("P9.6: Last(%s) = %s, %+v, %v", show(p), show(q), last, ok)
	}
	return want == api.OK
}

// checkTwo holds the answers about two paths against the second reading.
func checkTwo(t *testing.T, p, q api.Path) {
	t.Helper()
	if got, want := Compare(p, q), wantCompare(p, q); got != want {
		t.Fatalf("P9.2: Compare(%s, %s) = %d, want %d", show(p), show(q), got, want)
	}
	if got, want := Above(p, q), wantAbove(p, q); got != want {
		t.Fatalf("P9.3: Above(%s, %s) = %v", show(p), show(q), got)
	}
}

// pickOf is one of some things.
func pickOf[T any](r *rand.Rand, l ...T) T { return l[r.Intn(len(l))] }

func pickName(r *rand.Rand) string {
	s := pickOf(r, "", "a", "a", "b", "ab", "_", "A-9", "a_", "Zz", "9", "-", "-a", "a b", "a.b", ".", "[", "]", "=", ",", "[=1]", "\"", "\\", "\x00", "\x1f", "\n", "\x7f", "\u00e9", "a\u00e9", "\u2028", "\U0001f600", "true", "null", "<", "@", "`", "{", "/", ":", "a/", "a:")
	if r.Intn(6) == 0 {
		s += pickName(r)
	}
	return s
}

func pickScalar(r *rand.Rand) api.Value {
	switch r.Intn(4) {
	case 0:
		return truth(r.Intn(2) == 0)
	case 1, 2:
		return num(pickOf(r, -10, -1, 0, 1, 2, 10, math.MaxInt64, math.MinInt64, r.Int()))
	}
	return text(pickName(r))
}

func pickElem(r *rand.Rand) api.Elem {
	switch r.Intn(4) {
	case 0:
		by := map[string]api.Value{}
		for range 1 + r.Intn(pickOf(r, 1, 3, 8)) {
			by[pickName(r)] = pickScalar(r)
		}
		e := key()
		for _, k := range sortedKeys(by) {
			e.Key = append(e.Key, at(k, by[k]))
		}
		return e
	case 1:
		return item(pickScalar(r))
	}
	return field(pickName(r))
}

func sortedKeys(by map[string]api.Value) []string {
	var l []string
	for k := range by {
		l = append(l, k)
	}
	sort.Strings(l)
	return l
}

func pickPath(r *rand.Rand) api.Path {
	return path(r.Intn(pickOf(r, 2, 4, 6, 34)), func(int) api.Elem { return pickElem(r) })
}

// near is a path that has much in common with another one.
func near(r *rand.Rand, p api.Path) api.Path {
	q := roomy(p)
	switch r.Intn(4) {
	case 0:
		return q[:r.Intn(len(q)+1)]
	case 1:
		return append(q[:r.Intn(len(q)+1)], pickElem(r))
	case 2:
		if len(q) > 0 {
			nearElem(r, &q[r.Intn(len(q))])
		}
	}
	return q
}

// nearElem changes a little of an element, which may be none behind it.
func nearElem(r *rand.Rand, e *api.Elem) {
	switch {
	case e.Kind == api.ElemField:
		e.Name += pickOf(r, "", "a", "\x00", "-", " ")
	case e.Kind == api.ElemItem:
		e.Item = pickScalar(r)
	case len(e.Key) > 1 && r.Intn(3) == 0:
		e.Key = e.Key[:len(e.Key)-1]
	case len(e.Key) > 0 && r.Intn(2) == 0:
		e.Key[r.Intn(len(e.Key))].Val = pickScalar(r)
	default:
		e.Key = append(e.Key, at(pickName(r)+"\U0010ffff", pickScalar(r)))
	}
}

// spoil changes a path so that it is none, most of the times.
func spoil(r *rand.Rand, p api.Path) api.Path {
	q := roomy(p)
	if len(q) == 0 {
		return append(q, api.Elem{})
	}
	e := &q[r.Intn(len(q))]
	wrong := pickOf(r, api.Value{}, api.Value{Kind: api.List}, api.Value{Kind: api.Map}, api.Value{Kind: 6}, api.Value{Kind: -1}, text("\xc3"), api.Value{Kind: api.Int, Str: "a"}, api.Value{Kind: api.Bool, Int: 1}, api.Value{Kind: api.Str, Bool: true}, api.Value{Kind: api.Str, List: make([]api.Value, 1)}, api.Value{Kind: api.Int, Map: make([]api.Member, 1)})
	switch r.Intn(8) {
	case 0:
		e.Kind = pickOf(r, -1, 0, 1, 2, 3, 4)
	case 1:
		e.Name = pickOf(r, "a", "\xff", "a\xed\xa0\x80")
	case 2:
		e.Item = pickOf(r, wrong, pickScalar(r))
	case 3:
		e.Key = append(e.Key, at(pickName(r), pickScalar(r)))
	case 4:
		if len(e.Key) > 0 {
			e.Key[r.Intn(len(e.Key))].Val = wrong
		}
	case 5:
		if len(e.Key) > 0 {
			e.Key[r.Intn(len(e.Key))].Key = pickOf(r, "a", "b", "\xff", "")
		}
	case 6:
		if len(e.Key) > 0 {
			e.Key = append(e.Key, pickOf(r, e.Key...))
		}
	case 7:
		for range r.Intn(40) {
			q = append(q, pickElem(r))
		}
	}
	return q
}

// spoilText changes some bytes of a text.
func spoilText(r *rand.Rand, s string) string {
	b := []byte(s)
	for range 1 + r.Intn(2) {
		i := r.Intn(len(b) + 1)
		piece := pickOf(r, ".", "[", "]", "=", ",", "\"", "\\", "-", "0", "1", "a", "b", " ", "\xff", "\u00e9", "\x00", "true", "[=1]", "[a=1]", ".a", ".\"a\"", "\\u0061", "\\u001F", "\\/", "e", "+", "_")
		switch r.Intn(3) {
		case 0:
			b = slices.Insert(b, i, []byte(piece)...)
		case 1:
			b = slices.Delete(b, i, min(i+1, len(b)))
		case 2:
			b = slices.Replace(b, i, min(i+1, len(b)), []byte(piece)...)
		}
	}
	return string(b)
}

// room is the memory of a list, its spare room too.
type room struct{ from, to uintptr }

// rooms is the memory of all lists of a thing of package api.
func rooms(x any) []room { return roomsOf(reflect.ValueOf(x)) }

func roomsOf(v reflect.Value) []room {
	var l []room
	switch v.Kind() {
	case reflect.Slice:
		if v.Cap() > 0 {
			l = append(l, room{v.Pointer(), v.Pointer() + uintptr(v.Cap())*v.Type().Elem().Size()})
		}
		for i := range v.Len() {
			l = append(l, roomsOf(v.Index(i))...)
		}
	case reflect.Struct:
		for i := range v.NumField() {
			l = append(l, roomsOf(v.Field(i))...)
		}
	}
	return l
}

// checkApart holds rooms against each other: no two may have memory in common.
func checkApart(t *testing.T, what string, l []room) {
	t.Helper()
	sort.Slice(l, func(i, k int) bool { return l[i].from < l[k].from })
	for i := 1; i < len(l); i++ {
		if l[i].from < l[i-1].to {
			t.Fatalf("memory: %s: two lists share some", what)
		}
	}
}

// roomy is a thing of package api in memory of its own whose lists have spare room, with something in it; empty lists too.
func roomy[T any](x T) T { return roomyOf(reflect.ValueOf(x)).Interface().(T) }

func roomyOf(v reflect.Value) reflect.Value {
	to := reflect.New(v.Type()).Elem()
	switch v.Kind() {
	case reflect.Slice:
		to.Set(reflect.MakeSlice(v.Type(), v.Len()+2, v.Len()+2))
		for i := range v.Len() {
			to.Index(i).Set(roomyOf(v.Index(i)))
		}
		for i := v.Len(); i < to.Len(); i++ {
			mark(to.Index(i))
		}
		to.SetLen(v.Len())
	case reflect.Struct:
		for i := range v.NumField() {
			to.Field(i).Set(roomyOf(v.Field(i)))
		}
	default:
		to.Set(v)
	}
	return to
}

// mark writes something into all strings and numbers of a thing.
func mark(v reflect.Value) {
	switch v.Kind() {
	case reflect.String:
		v.SetString("scribble")
	case reflect.Int:
		v.SetInt(77)
	case reflect.Struct:
		for i := range v.NumField() {
			mark(v.Field(i))
		}
	}
}

// whole tells a thing with the spare room of its lists as if it were part of them.
func whole(x any) string { return fmt.Sprint(wholeOf(reflect.ValueOf(x))) }

func wholeOf(v reflect.Value) any {
	l := []any{}
	switch v.Kind() {
	case reflect.Slice:
		if v.Cap() > 0 {
			l = append(l, v.Pointer())
		}
		v = v.Slice(0, v.Cap())
		for i := range v.Len() {
			l = append(l, wholeOf(v.Index(i)))
		}
		return l
	case reflect.Struct:
		for i := range v.NumField() {
			l = append(l, wholeOf(v.Field(i)))
		}
		return l
	}
	return fmt.Sprintf("%#v", v.Interface())
}

// scribble writes over all that a thing's lists hold, spare room too.
func scribble(x any) { scribbleOf(reflect.ValueOf(x)) }

func scribbleOf(v reflect.Value) {
	switch v.Kind() {
	case reflect.Slice:
		v = v.Slice(0, v.Cap())
		for i := range v.Len() {
			scribbleOf(v.Index(i))
			mark(v.Index(i))
		}
	case reflect.Struct:
		for i := range v.NumField() {
			scribbleOf(v.Field(i))
		}
	}
}
