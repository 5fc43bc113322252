package validate

import (
	"fmt"
	"math"
	"math/rand"
	"reflect"
	"slices"
	"sort"
	"strconv"
	"strings"
	"testing"

	"freehold/api"
	"freehold/json"
	"freehold/pointer"
	"freehold/schema"
	"freehold/value"
)

// What the tests hold the package against, written from the words of the chapter and the page in other ways than the package's own: Check gathers all faults and takes the one that is met first, what stands twice is found by holding each against each, and a value is made normal by one small change after the other, till there is none left to make.

func num(n int) api.Value                 { return api.Value{Kind: api.Int, Int: n} }
func text(s string) api.Value             { return api.Value{Kind: api.Str, Str: s} }
func truth(b bool) api.Value              { return api.Value{Kind: api.Bool, Bool: b} }
func list(l ...api.Value) api.Value       { return api.Value{Kind: api.List, List: l} }
func object(l ...api.Member) api.Value    { return api.Value{Kind: api.Map, Map: l} }
func at(k string, v api.Value) api.Member { return api.Member{Key: k, Val: v} }

func fields(l ...string) []api.Field {
	var to []api.Field
	for i := 0; i < len(l); i += 2 {
		to = append(to, api.Field{Name: l[i], Type: l[i+1]})
	}
	return to
}

var (
	null = api.Value{}
	bad  = api.Value{Kind: 9}
)

// read is the value of a text.
func read(s string) api.Value {
	v, _, e := json.Parse([]byte(s), api.DeepRecord)
	if e != api.OK {
		panic(s)
	}
	return v
}

// show is a value as a test tells it.
func show(v api.Value) string {
	b, e := json.Print(v, api.DeepRecord)
	if e != api.OK || len(b) > 2000 {
		return fmt.Sprintf("a value of the kind %d (%d)", v.Kind, e)
	}
	return string(b)
}

// same tells whether two things of package api are the same, where nil and empty lists are.
func same(a, b any) bool { return sameOf(reflect.ValueOf(a), reflect.ValueOf(b)) }

func sameOf(a, b reflect.Value) bool {
	switch a.Kind() {
	case reflect.Slice:
		if a.Len() != b.Len() {
			return false
		}
		for i := range a.Len() {
			if !sameOf(a.Index(i), b.Index(i)) {
				return false
			}
		}
		return true
	case reflect.Struct:
		for i := range a.NumField() {
			if !sameOf(a.Field(i), b.Field(i)) {
				return false
			}
		}
		return true
	}
	return a.Equal(b)
}

// follow is what a name of a schema that may be means.
func follow(s api.Schema, name string) api.Type {
	if k := slices.Index([]string{"", "bool", "int", "string"}, name); k > 0 {
		return api.Type{Name: name, Kind: k}
	}
	for _, t := range s.Types {
		if t.Name == name && t.Kind == api.TypeName {
			return follow(s, t.Elem)
		}
		if t.Name == name {
			return t
		}
	}
	panic(name)
}

// isLeaf is the page's: a scalar, or something atomic.
func isLeaf(t api.Type) bool { return t.Kind <= 3 || t.Atomic || t.Kind == 6 && t.Rel == api.Whole }

// typeOfMember is the name of the type of a member; the empty one, if the struct has no such field.
func typeOfMember(t api.Type, key string) string {
	for _, f := range t.Fields {
		if f.Name == key {
			return f.Type
		}
	}
	return t.Elem
}

// keyOf is a key field of an element; null, if it is not there.
func keyOf(v api.Value, key string) api.Value {
	for _, m := range v.Map {
		if m.Key == key {
			return m.Val
		}
	}
	return null
}

// spot is where a value stands: the how manieth part of the how manieth part .., and the pointer.
type spot struct {
	steps []int
	place string
}

var asToken = strings.NewReplacer("~", "~0", "/", "~1")

func (p spot) down(i int, token string) spot {
	return spot{append(slices.Clone(p.steps), i), p.place + "/" + asToken.Replace(token)}
}

// found is a fault and its spot.
type found struct {
	spot
	e api.Errno
}

// faults is all that is wrong with a value of a type.
func faults(s api.Schema, typ string, v api.Value, here spot) []found {
	t := follow(s, typ)
	if v.Kind == api.Null {
		return []found{{here, api.ErrNull}}
	}
	if v.Kind != []int{0, api.Bool, api.Int, api.Str, api.Map, api.Map, api.List}[t.Kind] {
		return []found{{here, api.ErrShape}}
	}
	var l []found
	if len(t.Enum) > 0 && !slices.ContainsFunc(t.Enum, func(x api.Value) bool { return same(x, v) }) {
		l = append(l, found{here, api.ErrEnum})
	}
	for i, m := range v.Map {
		below, of := here.down(i, m.Key), typeOfMember(t, m.Key)
		if of == "" {
			l = append(l, found{below, api.ErrField})
		} else if m.Val.Kind != api.Null {
			l = append(l, faults(s, of, m.Val, below)...)
		}
	}
	for i, x := range v.List {
		l = append(l, faultsOfElement(s, t, v.List[:i], x, here.down(i, strconv.Itoa(i)))...)
	}
	return l
}

func faultsOfElement(s api.Schema, t api.Type, ahead []api.Value, x api.Value, here spot) []found {
	l := faults(s, t.Elem, x, here)
	for _, k := range t.Keys {
		if x.Kind == api.Map && keyOf(x, k).Kind == api.Null {
			l = append(l, found{here, api.ErrKey})
		}
	}
	for _, y := range ahead {
		if t.Rel == api.Set && same(x, y) || t.Rel == api.Keyed && !slices.ContainsFunc(t.Keys, func(k string) bool { return !same(keyOf(x, k), keyOf(y, k)) }) {
			behind := spot{append(slices.Clone(here.steps), math.MaxInt), here.place}
			l = append(l, found{behind, api.ErrTwice})
		}
	}
	return l
}

// asked is the error of the arguments by themselves.
func asked(s api.Schema, typ string, v api.Value) api.Errno {
	if e := schema.Check(s); e != api.OK {
		return e
	}
	if _, e := schema.Means(s, typ); e != api.OK {
		return e
	}
	return value.Check(v, 32)
}

func wantCheck(s api.Schema, typ string, v api.Value) (string, api.Errno) {
	if e := asked(s, typ, v); e != api.OK {
		return "", e
	}
	l := faults(s, typ, v, spot{})
	if len(l) == 0 {
		return "", api.OK
	}
	sort.SliceStable(l, func(i, k int) bool { return slices.Compare(l[i].steps, l[k].steps) < 0 })
	return l[0].place, l[0].e
}

// ahead tells whether an element of a set or a keyed list stands ahead of another one.
func ahead(t api.Type, a, b api.Value) bool {
	if t.Rel == api.Set {
		return value.Compare(a, b) < 0
	}
	for _, k := range t.Keys {
		if c := value.Compare(keyOf(a, k), keyOf(b, k)); c != 0 {
			return c < 0
		}
	}
	return false
}

// nearer is a valid value with one small change made that its normal form asks for; false, if there is none to make.
func nearer(s api.Schema, typ string, v api.Value, within bool) (api.Value, bool) {
	t := follow(s, typ)
	within = within || isLeaf(t)
	for i, m := range v.Map {
		of := typeOfMember(t, m.Key)
		empty := len(m.Val.List)+len(m.Val.Map) == 0
		if m.Val.Kind == api.Null || !within && empty && !isLeaf(follow(s, of)) {
			return object(slices.Concat(v.Map[:i], v.Map[i+1:])...), true
		}
		if x, ok := nearer(s, of, m.Val, within); ok {
			return object(slices.Concat(v.Map[:i], []api.Member{at(m.Key, x)}, v.Map[i+1:])...), true
		}
	}
	for i, x := range v.List {
		if !within && i > 0 && ahead(t, x, v.List[i-1]) {
			return list(slices.Concat(v.List[:i-1], []api.Value{x, v.List[i-1]}, v.List[i+1:])...), true
		}
		if y, ok := nearer(s, t.Elem, x, within); ok {
			return list(slices.Concat(v.List[:i], []api.Value{y}, v.List[i+1:])...), true
		}
	}
	return v, false
}

func wantNormal(s api.Schema, typ string, v api.Value) (api.Value, api.Errno) {
	if _, e := wantCheck(s, typ, v); e != api.OK {
		return null, e
	}
	for more := true; more; {
		v, more = nearer(s, typ, v, false)
	}
	return v, api.OK
}

func wantIsNormal(s api.Schema, typ string, v api.Value) bool {
	if _, e := wantCheck(s, typ, v); e != api.OK {
		return false
	}
	_, more := nearer(s, typ, v, false)
	return !more
}

// checkAll holds all answers about a value against the second reading.
func checkAll(t *testing.T, s api.Schema, typ string, v api.Value) api.Errno {
	t.Helper()
	place, e := Check(s, typ, v)
	if want, f := wantCheck(s, typ, v); place != want || e != f {
		t.Fatalf("P8.2: Check(%+v, %s, %s) = %q, %d, want %q, %d", s, typ, show(v), place, e, want, f)
	}
	n, e := Normal(s, typ, v)
	if want, f := wantNormal(s, typ, v); e != f || !same(n, want) {
		t.Fatalf("P8.3: Normal(%+v, %s, %s) = %s, %d, want %s, %d", s, typ, show(v), show(n), e, show(want), f)
	}
	if got, want := IsNormal(s, typ, v), wantIsNormal(s, typ, v); got != want {
		t.Fatalf("P8.3: IsNormal(%+v, %s, %s) = %v", s, typ, show(v), got)
	}
	return e
}

// pickOf is one of some things.
func pickOf[T any](r *rand.Rand, l ...T) T { return l[r.Intn(len(l))] }

// pickSchema makes schemas that may be, with types of every sort.
func pickSchema(r *rand.Rand) api.Schema {
	scalars := []string{"bool", "int", "string", "c0", "c1", "c2", "d"}
	all := append(slices.Clone(scalars), "e0", "e1", "f", "k0", "k1", "m0", "m1", "s0", "s1", "t0", "t1", "w0", "w1", "z")
	any := func() string { return pickOf(r, all...) }
	keyed := func(n string) api.Type {
		return api.Type{Name: n, Kind: api.TypeList, Rel: api.Keyed, Elem: pickOf(r, "e0", "e1", "f"), Keys: pickOf(r, []string{"a"}, []string{"b"}, []string{"a", "b"})}
	}
	set := func(n string) api.Type {
		return api.Type{Name: n, Kind: api.TypeList, Rel: api.Set, Elem: pickOf(r, scalars...)}
	}
	of := func(n string, atomic bool, a, b string) api.Type {
		return api.Type{Name: n, Kind: api.TypeStruct, Atomic: atomic, Fields: fields("a", a, "b", b, "c", any(), "c/~", any(), "\u00e9", any())}
	}
	return api.Schema{Types: []api.Type{
		{Name: "c0", Kind: api.TypeInt, Enum: []api.Value{num(-3), num(0), num(7)}},
		{Name: "c1", Kind: api.TypeStr, Enum: []api.Value{text(""), text("b"), text("bb")}},
		{Name: "c2", Kind: api.TypeBool, Enum: []api.Value{truth(true)}},
		{Name: "d", Kind: api.TypeName, Elem: pickOf(r, "c0", "c1", "int")},
		of("e0", false, pickOf(r, scalars...), pickOf(r, scalars...)),
		of("e1", false, pickOf(r, scalars...), pickOf(r, scalars...)),
		{Name: "f", Kind: api.TypeName, Elem: "e1"},
		keyed("k0"), keyed("k1"),
		{Name: "m0", Kind: api.TypeMap, Elem: any()},
		{Name: "m1", Kind: api.TypeMap, Atomic: true, Elem: any()},
		set("s0"), set("s1"),
		of("t0", false, any(), any()), of("t1", true, any(), any()),
		{Name: "w0", Kind: api.TypeList, Elem: any()}, {Name: "w1", Kind: api.TypeList, Elem: "k0"},
		{Name: "z", Kind: api.TypeName, Elem: pickOf(r, "k0", "k1", "m0", "m1", "s0", "t0", "t1", "w0")},
	}, Roots: []api.Root{{Kind: "app", Type: "t0"}, {Kind: "job", Type: "m0"}, {Kind: "web", Type: "f"}}}
}

func pickScalar(r *rand.Rand, t api.Type) api.Value {
	if len(t.Enum) > 0 {
		return pickOf(r, t.Enum...)
	}
	switch t.Kind {
	case api.TypeBool:
		return truth(r.Intn(2) == 0)
	case api.TypeInt:
		return pickOf(r, num(-3), num(0), num(1), num(7), num(10), num(math.MaxInt64), num(math.MinInt64))
	}
	return pickOf(r, text(""), text("a"), text("b"), text("bb"), text("\u00e9"), text("\x00"), text("1"), text("true"))
}

// pickValue makes valid values of a type.
func pickValue(r *rand.Rand, s api.Schema, typ string, depth int) api.Value {
	t := follow(s, typ)
	if t.Kind <= api.TypeStr {
		return pickScalar(r, t)
	}
	v := api.Value{Kind: api.Map}
	if t.Kind == api.TypeList {
		v.Kind = api.List
	}
	if depth <= 0 || r.Intn(12) == 0 {
		return v
	}
	if v.Kind == api.List {
		for range r.Intn(5) {
			x := pickValue(r, s, t.Elem, depth-1)
			for _, k := range t.Keys {
				x, _ = value.With(x, k, pickScalar(r, follow(s, typeOfMember(follow(s, t.Elem), k))))
			}
			if len(faultsOfElement(s, t, v.List, x, spot{})) == 0 {
				v.List = append(v.List, x)
			}
		}
		return v
	}
	for _, k := range []string{"", "a", "b", "c", "c/~", "~1", "\u00e9"} {
		if of := typeOfMember(t, k); of != "" && r.Intn(2) == 0 {
			x := pickValue(r, s, of, depth-1)
			if r.Intn(6) == 0 {
				x = null
			}
			v.Map = append(v.Map, at(k, x))
		}
	}
	return v
}

// places is the pointers of all that a value holds.
func places(v api.Value, p string) []string {
	kids, _ := pointer.Kids(v, "")
	l := []string{p}
	for _, k := range kids {
		token, _ := pointer.Print([]string{k})
		x, _ := pointer.Get(v, token)
		l = append(l, places(x, p+token)...)
	}
	return l
}

// spoil changes something of a value.
func spoil(r *rand.Rand, v api.Value) api.Value {
	all := places(v, "")
	p, q := pickOf(r, all...), pickOf(r, all...)
	x, _ := pointer.Get(v, q)
	other := pickOf(r, null, null, x, truth(true), num(7), num(5), text("b"), text("q"), list(), object(), list(null), object(at("a", num(7))))
	switch w, _ := pointer.Get(v, p); r.Intn(6) {
	case 0, 1:
		v, _ = pointer.Set(v, p, other)
	case 2:
		if p != "" {
			v, _, _ = pointer.Take(v, p)
		}
	case 3, 4:
		if w.Kind == api.List && len(w.List) > 0 {
			again := pickOf(r, w.List...)
			if r.Intn(2) == 0 {
				again = spoil(r, again)
			}
			w.List = slices.Insert(w.List, r.Intn(len(w.List)+1), again)
			v, _ = pointer.Set(v, p, w)
		}
	case 5:
		if w.Kind == api.Map {
			w, _ = value.With(w, pickOf(r, "", "a", "b", "c", "c/~", "d", "q"), other)
			v, _ = pointer.Set(v, p, w)
		}
	}
	return v
}

// room is the memory of a list, its spare room too.
type room struct{ from, to uintptr }

// rooms is the memory of all lists of a thing of package api.
func rooms(x any) []room { return roomsOf(reflect.ValueOf(x)) }

func roomsOf(v reflect.Value) []room {
	var l []room
	switch v.Kind() {
	case reflect.Slice:
		if v.Cap() > 0 {
			l = append(l, room{v.Pointer(), v.Pointer() + uintptr(v.Cap())*v.Type().Elem().Size()})
		}
		for i := range v.Len() {
			l = append(l, roomsOf(v.Index(i))...)
		}
	case reflect.Struct:
		for i := range v.NumField() {
			l = append(l, roomsOf(v.Field(i))...)
		}
	}
	return l
}

// checkApart holds rooms against each other: no two may have memory in common.
func checkApart(t *testing.T, what string, l []room) {
	t.Helper()
	sort.Slice(l, func(i, k int) bool { return l[i].from < l[k].from })
	for i := 1; i < len(l); i++ {
		if l[i].from < l[i-1].to {
			t.Fatalf("memory: %s: two lists share some", what)
		}
	}
}

// roomy is a thing of package api in memory of its own whose lists have spare room, with something in it; empty lists too.
func roomy[T any](x T) T { return roomyOf(reflect.ValueOf(x)).Interface().(T) }

func roomyOf(v reflect.Value) reflect.Value {
	to := reflect.New(v.Type()).Elem()
	switch v.Kind() {
	case reflect.Slice:
		to.Set(reflect.MakeSlice(v.Type(), v.Len()+2, v.Len()+2))
		for i := range v.Len() {
			to.Index(i).Set(roomyOf(v.Index(i)))
		}
		for i := v.Len(); i < to.Len(); i++ {
			mark(to.Index(i))
		}
		to.SetLen(v.Len())
	case reflect.Struct:
		for i := range v.NumField() {
			to.Field(i).Set(roomyOf(v.Field(i)))
		}
	default:
		to.Set(v)
	}
	return to
}

// mark writes something into all strings and numbers of a thing.
func mark(v reflect.Value) {
	switch v.Kind() {
	case reflect.String:
		v.SetString("scribble")
	case reflect.Int:
		v.SetInt(77)
	case reflect.Struct:
		for i := range v.NumField() {
			mark(v.Field(i))
		}
	}
}

// whole tells a thing with the spare room of its lists as if it were part of them.
func whole(x any) string { return fmt.Sprint(wholeOf(reflect.ValueOf(x))) }

func wholeOf(v reflect.Value) any {
	l := []any{}
	switch v.Kind() {
	case reflect.Slice:
		if v.Cap() > 0 {
			l = append(l, v.Pointer())
		}
		v = v.Slice(0, v.Cap())
		for i := range v.Len() {
			l = append(l, wholeOf(v.Index(i)))
		}
		return l
	case reflect.Struct:
		for i := range v.NumField() {
			l = append(l, wholeOf(v.Field(i)))
		}
		return l
	}
	return fmt.Sprintf("%#v", v.Interface())
}

// scribble writes over all that a thing's lists hold, spare room too.
func scribble(x any) { scribbleOf(reflect.ValueOf(x)) }

func scribbleOf(v reflect.Value) {
	switch v.Kind() {
	case reflect.Slice:
		v = v.Slice(0, v.Cap())
		for i := range v.Len() {
			scribbleOf(v.Index(i))
			mark(v.Index(i))
		}
	case reflect.Struct:
		for i := range v.NumField() {
			scribbleOf(v.Field(i))
		}
	}
}
