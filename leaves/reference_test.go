package leaves

import (
	"fmt"
	"math"
	"math/rand"
	"reflect"
	"slices"
	"sort"
	"strings"
	"testing"
	"unicode/utf8"

	"freehold/api"
	"freehold/json"
	"freehold/path"
	"freehold/schema"
	"freehold/validate"
	"freehold/value"
)

// What the tests hold the package against, written from the words of the chapter and the page in other ways than the package's own: of a value each place is asked by itself, from the root on, whether it is a leaf, and the leaves are put into order by bytes that keep it; of leaves all that hinder are gathered, each looked at by itself, and a value is made by putting in one leaf after the other, the last one first; rows of leaves are kept as maps by such bytes.

func num(n int) api.Value                 { return api.Value{Kind: api.Int, Int: n} }
func text(s string) api.Value             { return api.Value{Kind: api.Str, Str: s} }
func truth(b bool) api.Value              { return api.Value{Kind: api.Bool, Bool: b} }
func list(l ...api.Value) api.Value       { return api.Value{Kind: api.List, List: l} }
func object(l ...api.Member) api.Value    { return api.Value{Kind: api.Map, Map: l} }
func at(k string, v api.Value) api.Member { return api.Member{Key: k, Val: v} }

func field(name string) api.Elem   { return api.Elem{Kind: api.ElemField, Name: name} }
func key(l ...api.Member) api.Elem { return api.Elem{Kind: api.ElemKey, Key: l} }
func item(v api.Value) api.Elem    { return api.Elem{Kind: api.ElemItem, Item: v} }

func fields(l ...string) []api.Field {
	var to []api.Field
	for i := 0; i < len(l); i += 2 {
		to = append(to, api.Field{Name: l[i], Type: l[i+1]})
	}
	return to
}

var null = api.Value{}

// read is the value of a text.
func read(s string) api.Value {
	v, _, e := json.Parse([]byte(s), api.DeepRecord)
	if e != api.OK {
		panic(s)
	}
	return v
}

// way is the path of a text.
func way(s string) api.Path {
	p, _, e := path.Parse(s)
	if e != api.OK {
		panic(s)
	}
	return p
}

// row is leaves as lines tell them: a path, and behind a space the value, if it has one. (No path of a test's line has a space.)
func row(lines ...string) []api.Leaf {
	var l []api.Leaf
	for _, s := range lines {
		p, v, has := strings.Cut(s, " ")
		x := api.Leaf{Path: way(p)}
		if has {
			x.Val = read(v)
		}
		l = append(l, x)
	}
	return l
}

// show is a value as a test tells it.
func show(v api.Value) string {
	b, e := json.Print(v, api.DeepRecord)
	if e != api.OK || len(b) > 2000 {
		return fmt.Sprintf("a value of the kind %d (%d)", v.Kind, e)
	}
	return string(b)
}

// tell is leaves as a test tells them.
func tell(l []api.Leaf) string {
	if len(l) > 100 {
		return fmt.Sprintf("%d leaves", len(l))
	}
	var s []string
	for _, x := range l {
		p, e := path.Text(x.Path)
		if e != api.OK {
			p = fmt.Sprintf("no path %+v", x.Path)
		}
		if !same(x.Val, null) {
			p += " " + show(x.Val)
		}
		s = append(s, p)
	}
	return strings.Join(s, "; ")
}

// same tells whether two things of package api are the same, where nil and empty lists are.
func same(a, b any) bool { return sameOf(reflect.ValueOf(a), reflect.ValueOf(b)) }

func sameOf(a, b reflect.Value) bool {
	switch a.Kind() {
	case reflect.Slice:
		if a.Len() != b.Len() {
			return false
		}
		for i := range a.Len() {
			if !sameOf(a.Index(i), b.Index(i)) {
				return false
			}
		}
		return true
	case reflect.Struct:
		for i := range a.NumField() {
			if !sameOf(a.Field(i), b.Field(i)) {
				return false
			}
		}
		return true
	}
	return a.Equal(b)
}

// follow is what a name of a schema that may be means.
func follow(s api.Schema, name string) api.Type {
	if k := slices.Index([]string{"", "bool", "int", "string"}, name); k > 0 {
		return api.Type{Name: name, Kind: k}
	}
	for _, t := range s.Types {
		if t.Name == name && t.Kind == api.TypeName {
			return follow(s, t.Elem)
		}
		if t.Name == name {
			return t
		}
	}
	panic(name)
}

// isLeaf is the page's: a scalar, or something atomic.
func isLeaf(t api.Type) bool { return t.Kind <= 3 || t.Atomic || t.Kind == 6 && t.Rel == api.Whole }

// typeOfMember is the name of the type of a member; the empty one, if the struct has no such field.
func typeOfMember(t api.Type, key string) string {
	for _, f := range t.Fields {
		if f.Name == key {
			return f.Type
		}
	}
	return t.Elem
}

// keyOf is a key field of an element; null, if it is not there.
func keyOf(v api.Value, key string) api.Value {
	for _, m := range v.Map {
		if m.Key == key {
			return m.Val
		}
	}
	return null
}

// scalarIs tells whether a value is a scalar that is good and not too long.
func scalarIs(v api.Value) bool {
	only := map[int]api.Value{api.Bool: truth(v.Bool), api.Int: num(v.Int), api.Str: text(v.Str)}
	want, known := only[v.Kind]
	return known && same(v, want) && utf8.ValidString(v.Str) && len(v.Str) <= 1048576
}

func elemIs(e api.Elem) bool {
	only := map[int]api.Elem{api.ElemField: field(e.Name), api.ElemKey: key(e.Key...), api.ElemItem: item(e.Item)}
	want, known := only[e.Kind]
	if !known || !same(e, want) || !utf8.ValidString(e.Name) {
		return false
	}
	var names []string
	for _, m := range e.Key {
		if !scalarIs(m.Val) || !utf8.ValidString(m.Key) {
			return false
		}
		names = append(names, m.Key)
	}
	sorted := slices.Compact(slices.Sorted(slices.Values(names)))
	return slices.Equal(names, sorted) && len(names) <= 8 && (len(names) > 0 || e.Kind != api.ElemKey) && (e.Kind != api.ElemItem || scalarIs(e.Item))
}

func isPath(p api.Path) bool {
	wrong := slices.IndexFunc(p, func(e api.Elem) bool { return !elemIs(e) })
	return len(p) <= 32 && wrong < 0
}

// The bytes of a path keep its order: of two paths the one that stands first has the bytes that do, and those of a path begin those of another one just if it is above it. Each string ends with 0 1, and a 0 within is 0 255.
func stringBytes(s string) string { return strings.ReplaceAll(s, "\x00", "\x00\xff") + "\x00\x01" }

func scalarBytes(v api.Value) string {
	switch {
	case v.Kind == api.Bool && v.Bool:
		return "\x02"
	case v.Kind == api.Bool:
		return "\x01"
	case v.Kind == api.Int:
		return fmt.Sprintf("\x03%020d", uint64(v.Int)^(1<<63))
	}
	return "\x04" + stringBytes(v.Str)
}

func elemBytes(e api.Elem) string {
	switch e.Kind {
	case api.ElemField:
		return "\x01" + stringBytes(e.Name)
	case api.ElemKey:
		s := "\x02"
		for _, m := range e.Key {
			s += "\x01" + stringBytes(m.Key) + scalarBytes(m.Val)
		}
		return s + "\x00"
	}
	return "\x03" + scalarBytes(e.Item)
}

func pathBytes(p api.Path) string {
	s := ""
	for _, e := range p {
		s += elemBytes(e)
	}
	return s
}

// ofScalar tells whether a value is one of a scalar type.
func ofScalar(t api.Type, v api.Value) bool {
	in := slices.ContainsFunc(t.Enum, func(x api.Value) bool { return same(x, v) })
	return t.Kind <= 3 && scalarIs(v) && v.Kind == []int{0, api.Bool, api.Int, api.Str}[t.Kind] && (len(t.Enum) == 0 || in)
}

// leadsBy tells whether an element may stand below a value of a type, and the name of the type behind it.
func leadsBy(s api.Schema, t api.Type, e api.Elem) (string, bool) {
	switch {
	case isLeaf(t):
		return "", false
	case t.Kind == api.TypeStruct || t.Kind == api.TypeMap:
		of := typeOfMember(t, e.Name)
		return of, e.Kind == api.ElemField && of != ""
	case t.Rel == api.Set:
		return t.Elem, e.Kind == api.ElemItem && ofScalar(follow(s, t.Elem), e.Item)
	}
	var names []string
	for _, m := range e.Key {
		names = append(names, m.Key)
	}
	if e.Kind != api.ElemKey || !slices.Equal(names, t.Keys) {
		return "", false
	}
	for _, m := range e.Key {
		if !ofScalar(follow(s, typeOfMember(follow(s, t.Elem), m.Key)), m.Val) {
			return "", false
		}
	}
	return t.Elem, true
}

// stands is the type at a path; false, if it leads nowhere, or to a key field.
func stands(s api.Schema, typ string, p api.Path) (api.Type, bool) {
	if !isPath(p) {
		return api.Type{}, false
	}
	for i, e := range p {
		name, ok := leadsBy(s, follow(s, typ), e)
		if !ok || i > 0 && slices.ContainsFunc(p[i-1].Key, func(m api.Member) bool { return m.Key == e.Name }) {
			return api.Type{}, false
		}
		typ = name
	}
	return follow(s, typ), true
}

// spots is the ways to all that a value holds, as the numbers of the parts along them.
func spots(v api.Value, here []int) [][]int {
	all := [][]int{here}
	for i, x := range v.List {
		all = append(all, spots(x, append(slices.Clone(here), i))...)
	}
	for i, m := range v.Map {
		all = append(all, spots(m.Val, append(slices.Clone(here), i))...)
	}
	return all
}

// leafAt is the leaf at one of the spots of a normal value; false, if there is none.
func leafAt(s api.Schema, typ string, v api.Value, spot []int) (api.Leaf, bool) {
	x := api.Leaf{Path: api.Path{}}
	for _, i := range spot {
		e, next := api.Elem{}, null
		switch t := follow(s, typ); {
		case v.Kind == api.Map:
			e, next = field(v.Map[i].Key), v.Map[i].Val
		case t.Rel == api.Keyed:
			e, next = key(), v.List[i]
			for _, k := range t.Keys {
				e.Key = append(e.Key, at(k, keyOf(next, k)))
			}
		default:
			e, next = item(v.List[i]), v.List[i]
		}
		name, ok := leadsBy(s, follow(s, typ), e)
		if !ok {
			return x, false
		}
		x.Path, typ, v = append(x.Path, e), name, next
	}
	n := len(x.Path)
	if n > 0 && x.Path[n-1].Kind != api.ElemField {
		return x, true
	}
	x.Val = v
	ofKey := n > 1 && slices.ContainsFunc(x.Path[n-2].Key, func(m api.Member) bool { return m.Key == x.Path[n-1].Name })
	return x, !ofKey && isLeaf(follow(s, typ))
}

// byBytes is leaves in the order of their paths, each path once; the last of its leaves counts.
func byBytes(l []api.Leaf) []api.Leaf {
	by := map[string]api.Leaf{}
	for _, x := range l {
		by[pathBytes(x.Path)] = x
	}
	var names []string
	for b := range by {
		names = append(names, b)
	}
	sort.Strings(names)
	var to []api.Leaf
	for _, b := range names {
		to = append(to, by[b])
	}
	return to
}

func wantOf(s api.Schema, typ string, v api.Value) ([]api.Leaf, api.Errno) {
	if e := schema.Check(s); e != api.OK {
		return nil, e
	}
	if _, e := schema.Means(s, typ); e != api.OK {
		return nil, e
	}
	if _, e := validate.Check(s, typ, v); e != api.OK {
		return nil, e
	}
	if !validate.IsNormal(s, typ, v) {
		return nil, api.ErrLeaf
	}
	var l []api.Leaf
	for _, spot := range spots(v, nil) {
		if x, ok := leafAt(s, typ, v, spot); ok {
			l = append(l, x)
		}
	}
	return byBytes(l), api.OK
}

// hinders tells whether a leaf can't stand behind those ahead of it.
func hinders(s api.Schema, typ string, ahead []api.Leaf, x api.Leaf) bool {
	t, ok := stands(s, typ, x.Path)
	if !ok {
		return true
	}
	n := len(x.Path)
	if n > 0 && x.Path[n-1].Kind != api.ElemField {
		ok = same(x.Val, null)
	} else {
		ok = isLeaf(t) && validate.IsNormal(s, t.Name, x.Val)
	}
	if k := len(ahead); k > 0 && pathBytes(ahead[k-1].Path) >= pathBytes(x.Path) {
		return true
	}
	for i := range max(n-1, 0) {
		above := pathBytes(x.Path[:i+1])
		if x.Path[i].Kind == api.ElemKey && !slices.ContainsFunc(ahead, func(y api.Leaf) bool { return pathBytes(y.Path) == above }) {
			return true
		}
	}
	return !ok
}

// empty is what a type's value is ahead of its first leaf.
func empty(t api.Type) api.Value {
	if t.Kind == api.TypeList {
		return list()
	}
	return object()
}

// putIn is a value with a leaf put in, wherever there is room for it.
func putIn(s api.Schema, typ string, v api.Value, p api.Path, x api.Value) api.Value {
	if len(p) == 0 {
		return x
	}
	e := p[0]
	of, _ := leadsBy(s, follow(s, typ), e)
	switch e.Kind {
	case api.ElemItem:
		v.List = append(v.List, e.Item)
	case api.ElemField:
		i := slices.IndexFunc(v.Map, func(m api.Member) bool { return m.Key == e.Name })
		if i < 0 {
			i, v.Map = len(v.Map), append(v.Map, at(e.Name, empty(follow(s, of))))
		}
		v.Map[i].Val = putIn(s, of, v.Map[i].Val, p[1:], x)
		sort.Slice(v.Map, func(i, k int) bool { return v.Map[i].Key < v.Map[k].Key })
	case api.ElemKey:
		i := slices.IndexFunc(v.List, func(y api.Value) bool {
			return !slices.ContainsFunc(e.Key, func(m api.Member) bool { return !same(keyOf(y, m.Key), m.Val) })
		})
		if i < 0 {
			i, v.List = len(v.List), append(v.List, object(slices.Clone(e.Key)...))
		}
		if len(p) > 1 {
			v.List[i] = putIn(s, of, v.List[i], p[1:], x)
		}
	}
	return v
}

func wantValue(s api.Schema, typ string, l []api.Leaf) (api.Value, int, api.Errno) {
	if e := schema.Check(s); e != api.OK {
		return null, -1, e
	}
	if _, e := schema.Means(s, typ); e != api.OK {
		return null, -1, e
	}
	if len(l) == 0 && isLeaf(follow(s, typ)) {
		return null, 0, api.ErrLeaf
	}
	for i, x := range l {
		if hinders(s, typ, l[:i], x) {
			return null, i, api.ErrLeaf
		}
	}
	v := empty(follow(s, typ))
	for _, x := range slices.Backward(l) {
		v = putIn(s, typ, v, x.Path, x.Val)
	}
	if e := value.Check(v, 32); e != api.OK {
		return null, -1, e
	}
	n, e := validate.Normal(s, typ, v)
	if e != api.OK {
		panic(e)
	}
	return n, -1, api.OK
}

// above tells whether a path is one, and at or above that of a leaf.
func above(p api.Path, x api.Leaf) bool {
	return isPath(p) && strings.HasPrefix(pathBytes(x.Path), pathBytes(p))
}

// kept is the leaves for which a question is answered with yes.
func kept(l []api.Leaf, ask func(x api.Leaf) bool) []api.Leaf {
	var to []api.Leaf
	for _, x := range l {
		if ask(x) {
			to = append(to, x)
		}
	}
	return to
}

// checkOf holds an answer of Of against the second reading.
func checkOf(t *testing.T, s api.Schema, typ string, v api.Value) ([]api.Leaf, api.Errno) {
	t.Helper()
	l, e := Of(s, typ, v)
	if want, f := wantOf(s, typ, v); e != f || !same(l, want) {
		t.Fatalf("P12.1: Of(%+v, %s, %s) = %s, %d, want %s, %d", s, typ, show(v), tell(l), e, tell(want), f)
	}
	return l, e
}

// checkValue holds an answer of Value against the second reading.
func checkValue(t *testing.T, s api.Schema, typ string, l []api.Leaf) (api.Value, api.Errno) {
	t.Helper()
	v, at, e := Value(s, typ, l)
	if want, k, f := wantValue(s, typ, l); at != k || e != f || !same(v, want) {
		t.Fatalf("P12.2: Value(%+v, %s, %s) = %s, %d, %d, want %s, %d, %d", s, typ, tell(l), show(v), at, e, show(want), k, f)
	}
	return v, e
}

// checkBack holds a normal value against its leaves' value.
func checkBack(t *testing.T, s api.Schema, typ string, v api.Value) []api.Leaf {
	t.Helper()
	l, e := checkOf(t, s, typ, v)
	if e != api.OK {
		t.Fatalf("P12.1: Of(%+v, %s, %s): %d", s, typ, show(v), e)
	}
	if back, e := checkValue(t, s, typ, l); e != api.OK || !same(back, v) {
		t.Fatalf("P12.4: %+v, %s: the value of the leaves of %s: %s, %d", s, typ, show(v), show(back), e)
	}
	return l
}

// checkPath holds all that is asked of leaves and a path against the second reading.
func checkPath(t *testing.T, l []api.Leaf, p api.Path) {
	t.Helper()
	here := kept(l, func(x api.Leaf) bool { return isPath(p) && pathBytes(x.Path) == pathBytes(p) })
	v, is := Get(l, p)
	if is != (len(here) == 1) || is && !same(v, here[0].Val) || !is && !same(v, null) {
		t.Fatalf("P12.3: Get(%s, %+v) = %s, %v", tell(l), p, show(v), is)
	}
	if got, want := Under(l, p), kept(l, func(x api.Leaf) bool { return above(p, x) }); !same(got, want) {
		t.Fatalf("P12.3: Under(%s, %+v) = %s, want %s", tell(l), p, tell(got), tell(want))
	}
}

// checkDrop holds an answer of Drop against the second reading.
func checkDrop(t *testing.T, l []api.Leaf, ps []api.Path) []api.Leaf {
	t.Helper()
	got := Drop(l, ps)
	want := kept(l, func(x api.Leaf) bool {
		return !slices.ContainsFunc(ps, func(p api.Path) bool { return above(p, x) })
	})
	if !same(got, want) {
		t.Fatalf("P12.3: Drop(%s, %+v) = %s, want %s", tell(l), ps, tell(got), tell(want))
	}
	return got
}

// checkPut holds answers of Put and Paths against the second reading.
func checkPut(t *testing.T, l, m []api.Leaf) []api.Leaf {
	t.Helper()
	got := Put(l, m)
	if want := byBytes(slices.Concat(l, m)); !same(got, want) {
		t.Fatalf("P12.3: Put(%s, %s) = %s, want %s", tell(l), tell(m), tell(got), tell(want))
	}
	var paths []api.Path
	for _, x := range got {
		paths = append(paths, x.Path)
	}
	if all := Paths(got); !same(all, paths) {
		t.Fatalf("P12.3: Paths(%s) = %+v", tell(got), all)
	}
	return got
}

// pickOf is one of some things.
func pickOf[T any](r *rand.Rand, l ...T) T { return l[r.Intn(len(l))] }

// pickSchema makes schemas that may be, with types of every sort.
func pickSchema(r *rand.Rand) api.Schema {
	scalars := []string{"bool", "int", "string", "c0", "c1", "c2", "d"}
	all := append(slices.Clone(scalars), "e0", "e1", "f", "k0", "k1", "m0", "m1", "s0", "s1", "t0", "t1", "w0", "w1", "z")
	any := func() string { return pickOf(r, all...) }
	keyed := func(n string) api.Type {
		return api.Type{Name: n, Kind: api.TypeList, Rel: api.Keyed, Elem: pickOf(r, "e0", "e1", "f"), Keys: pickOf(r, []string{"a"}, []string{"b"}, []string{"a", "b"})}
	}
	set := func(n string) api.Type {
		return api.Type{Name: n, Kind: api.TypeList, Rel: api.Set, Elem: pickOf(r, scalars...)}
	}
	of := func(n string, atomic bool, a, b string) api.Type {
		return api.Type{Name: n, Kind: api.TypeStruct, Atomic: atomic, Fields: fields("a", a, "b", b, "c", any(), "c/~", any(), "\u00e9", any())}
	}
	return api.Schema{Types: []api.Type{
		{Name: "c0", Kind: api.TypeInt, Enum: []api.Value{num(-3), num(0), num(7)}},
		{Name: "c1", Kind: api.TypeStr, Enum: []api.Value{text(""), text("b"), text("bb")}},
		{Name: "c2", Kind: api.TypeBool, Enum: []api.Value{truth(true)}},
		{Name: "d", Kind: api.TypeName, Elem: pickOf(r, "c0", "c1", "int")},
		of("e0", false, pickOf(r, scalars...), pickOf(r, scalars...)),
		of("e1", false, pickOf(r, scalars...), pickOf(r, scalars...)),
		{Name: "f", Kind: api.TypeName, Elem: "e1"},
		keyed("k0"), keyed("k1"),
		{Name: "m0", Kind: api.TypeMap, Elem: any()},
		{Name: "m1", Kind: api.TypeMap, Atomic: true, Elem: any()},
		set("s0"), set("s1"),
		of("t0", false, any(), any()), of("t1", true, any(), any()),
		{Name: "w0", Kind: api.TypeList, Elem: any()}, {Name: "w1", Kind: api.TypeList, Elem: "k0"},
		{Name: "z", Kind: api.TypeName, Elem: pickOf(r, "k0", "k1", "m0", "m1", "s0", "t0", "t1", "w0")},
	}, Roots: []api.Root{{Kind: "app", Type: "t0"}, {Kind: "job", Type: "m0"}, {Kind: "web", Type: "f"}}}
}

func pickScalar(r *rand.Rand, t api.Type) api.Value {
	if len(t.Enum) > 0 {
		return pickOf(r, t.Enum...)
	}
	switch t.Kind {
	case api.TypeBool:
		return truth(r.Intn(2) == 0)
	case api.TypeInt:
		return pickOf(r, num(-3), num(0), num(1), num(7), num(10), num(math.MaxInt64), num(math.MinInt64))
	}
	return pickOf(r, text(""), text("a"), text("b"), text("bb"), text("\u00e9"), text("\x00"), text("1"), text("true"))
}

// pickValue makes valid values of a type.
func pickValue(r *rand.Rand, s api.Schema, typ string, depth int) api.Value {
	t := follow(s, typ)
	if t.Kind <= api.TypeStr {
		return pickScalar(r, t)
	}
	v := api.Value{Kind: api.Map}
	if t.Kind == api.TypeList {
		v.Kind = api.List
	}
	if depth <= 0 || r.Intn(12) == 0 {
		return v
	}
	if v.Kind == api.List {
		for range r.Intn(5) {
			x := pickValue(r, s, t.Elem, depth-1)
			for _, k := range t.Keys {
				x, _ = value.With(x, k, pickScalar(r, follow(s, typeOfMember(follow(s, t.Elem), k))))
			}
			more := append(slices.Clone(v.List), x)
			if _, e := validate.Check(s, typ, list(more...)); e == api.OK {
				v.List = more
			}
		}
		return v
	}
	for _, k := range []string{"", "a", "b", "c", "c/~", "~1", "\u00e9"} {
		if of := typeOfMember(t, k); of != "" && r.Intn(2) == 0 {
			x := pickValue(r, s, of, depth-1)
			if r.Intn(6) == 0 {
				x = null
			}
			v.Map = append(v.Map, at(k, x))
		}
	}
	return v
}

// pickNormal makes normal values of a type.
func pickNormal(r *rand.Rand, s api.Schema, typ string, depth int) api.Value {
	n, e := validate.Normal(s, typ, pickValue(r, s, typ, depth))
	if e != api.OK {
		panic(e)
	}
	return n
}

// names is the types that a schema's values are asked for.
func names(s api.Schema) []string {
	l := []string{"int", "string", "bool"}
	for _, t := range s.Types {
		l = append(l, t.Name, t.Name)
	}
	return l
}

// near is a path that has much in common with another one.
func near(r *rand.Rand, p api.Path) api.Path {
	q := roomy(p)
	if len(q) == 0 {
		return append(q, pickElem(r))
	}
	switch i := r.Intn(len(q)); r.Intn(6) {
	case 0:
		return q[:i]
	case 1:
		return append(q[:i], pickElem(r))
	case 2:
		return append(q, pickElem(r))
	case 3:
		q[i] = pickElem(r)
	case 4:
		if l := q[i].Key; len(l) > 0 {
			l[r.Intn(len(l))].Val = pickScalar(r, api.Type{Kind: 1 + r.Intn(3)})
		} else if q[i].Kind == api.ElemItem {
			q[i].Item = pickScalar(r, api.Type{Kind: 1 + r.Intn(3)})
		}
	case 5: // what its kind does not use
		q[i] = pickOf(r, api.Elem{Kind: q[i].Kind, Name: q[i].Name, Key: q[i].Key, Item: num(1)}, api.Elem{Kind: q[i].Kind, Name: "a", Key: q[i].Key, Item: q[i].Item}, api.Elem{Kind: q[i].Kind, Name: q[i].Name, Key: append(q[i].Key, at("c", num(1))), Item: q[i].Item}, api.Elem{Kind: r.Intn(5), Name: q[i].Name, Key: q[i].Key, Item: q[i].Item})
	}
	return q
}

func pickElem(r *rand.Rand) api.Elem {
	one := func() api.Value { return pickScalar(r, api.Type{Kind: 1 + r.Intn(3)}) }
	switch r.Intn(5) {
	case 0:
		return item(one())
	case 1:
		return pickOf(r, key(at("a", one())), key(at("b", one())), key(at("a", one()), at("b", one())), key())
	}
	return field(pickOf(r, "", "a", "b", "c", "c/~", "d", "~1", "\u00e9", "\xff"))
}

// spoil changes leaves a little: most of the times they are no value's behind it.
func spoil(r *rand.Rand, l []api.Leaf) []api.Leaf {
	l = roomy(l)
	odd := pickOf(r, null, truth(true), num(7), text("b"), list(), object(), list(null), object(at("a", null)), object(at("a", num(7))), api.Value{Kind: 9}, api.Value{Int: 1})
	if len(l) == 0 {
		return append(l, api.Leaf{Path: pickOf(r, nil, api.Path{pickElem(r)}), Val: odd})
	}
	i, k := r.Intn(len(l)), r.Intn(len(l))
	switch r.Intn(7) {
	case 0:
		l[i].Val = odd
	case 1:
		l[i].Val = roomy(l[k].Val)
	case 2:
		return slices.Delete(l, i, i+1)
	case 3:
		l[i].Path = near(r, l[i].Path)
	case 4:
		return slices.Insert(l, k, roomy(l[i]))
	case 5:
		l[i], l[k] = l[k], l[i]
	case 6:
		x := api.Leaf{Path: near(r, l[i].Path), Val: pickOf(r, odd, roomy(l[k].Val))}
		if isPath(x.Path) {
			return byBytes(append(l, x))
		}
	}
	return l
}

// room is the memory of a list, its spare room too.
type room struct{ from, to uintptr }

// rooms is the memory of all lists of a thing of package api.
func rooms(x any) []room { return roomsOf(reflect.ValueOf(x)) }

func roomsOf(v reflect.Value) []room {
	var l []room
	switch v.Kind() {
	case reflect.Slice:
		if v.Cap() > 0 {
			l = append(l, room{v.Pointer(), v.Pointer() + uintptr(v.Cap())*v.Type().Elem().Size()})
		}
		for i := range v.Len() {
			l = append(l, roomsOf(v.Index(i))...)
		}
	case reflect.Struct:
		for i := range v.NumField() {
			l = append(l, roomsOf(v.Field(i))...)
		}
	}
	return l
}

// checkApart holds rooms against each other: no two may have memory in common.
func checkApart(t *testing.T, what string, l []room) {
	t.Helper()
	sort.Slice(l, func(i, k int) bool { return l[i].from < l[k].from })
	for i := 1; i < len(l); i++ {
		if l[i].from < l[i-1].to {
			t.Fatalf("memory: %s: two lists share some", what)
		}
	}
}

// roomy is a thing of package api in memory of its own whose lists have spare room, with something in it; empty lists too.
func roomy[T any](x T) T { return roomyOf(reflect.ValueOf(x)).Interface().(T) }

func roomyOf(v reflect.Value) reflect.Value {
	to := reflect.New(v.Type()).Elem()
	switch v.Kind() {
	case reflect.Slice:
		to.Set(reflect.MakeSlice(v.Type(), v.Len()+2, v.Len()+2))
		for i := range v.Len() {
			to.Index(i).Set(roomyOf(v.Index(i)))
		}
		for i := v.Len(); i < to.Len(); i++ {
			mark(to.Index(i))
		}
		to.SetLen(v.Len())
	case reflect.Struct:
		for i := range v.NumField() {
			to.Field(i).Set(roomyOf(v.Field(i)))
		}
	default:
		to.Set(v)
	}
	return to
}

// mark writes something into all strings and numbers of a thing.
func mark(v reflect.Value) {
	switch v.Kind() {
	case reflect.String:
		v.SetString("scribble")
	case reflect.Int:
		v.SetInt(77)
	case reflect.Struct:
		for i := range v.NumField() {
			mark(v.Field(i))
		}
	}
}

// whole tells a thing with the spare room of its lists as if it were part of them.
func whole(x any) string { return fmt.Sprint(wholeOf(reflect.ValueOf(x))) }

func wholeOf(v reflect.Value) any {
	l := []any{}
	switch v.Kind() {
	case reflect.Slice:
		if v.Cap() > 0 {
			l = append(l, v.Pointer())
		}
		v = v.Slice(0, v.Cap())
		for i := range v.Len() {
			l = append(l, wholeOf(v.Index(i)))
		}
		return l
	case reflect.Struct:
		for i := range v.NumField() {
			l = append(l, wholeOf(v.Field(i)))
		}
		return l
	}
	return fmt.Sprintf("%#v", v.Interface())
}

// scribble writes over all that a thing's lists hold, spare room too.
func scribble(x any) { scribbleOf(reflect.ValueOf(x)) }

func scribbleOf(v reflect.Value) {
	switch v.Kind() {
	case reflect.Slice:
		v = v.Slice(0, v.Cap())
		for i := range v.Len() {
			scribbleOf(v.Index(i))
			mark(v.Index(i))
		}
	case reflect.Struct:
		for i := range v.NumField() {
			scribbleOf(v.Field(i))
		}
	}
}
