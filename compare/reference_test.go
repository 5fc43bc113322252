package compare

import (
	"fmt"
	"maps"
	"math"
	"math/rand"
	"reflect"
	"slices"
	"sort"
	"strings"
	"testing"

	"freehold/api"
	"freehold/json"
	"freehold/path"
	"freehold/pathset"
	"freehold/validate"
	"freehold/value"
)

// What the tests hold the package against, written from the words of the chapter and the page in other ways than the package's own: values are laid over each other, and parts of them kept or left out, by going down the values themselves, without a list of leaves; what parts two values is found by maps of what stands at each path, gathered from the values as they were given, not from their normal forms.

func num(n int) api.Value                 { return api.Value{Kind: api.Int, Int: n} }
func text(s string) api.Value             { return api.Value{Kind: api.Str, Str: s} }
func truth(b bool) api.Value              { return api.Value{Kind: api.Bool, Bool: b} }
func list(l ...api.Value) api.Value       { return api.Value{Kind: api.List, List: l} }
func object(l ...api.Member) api.Value    { return api.Value{Kind: api.Map, Map: l} }
func at(k string, v api.Value) api.Member { return api.Member{Key: k, Val: v} }

func field(name string) api.Elem   { return api.Elem{Kind: api.ElemField, Name: name} }
func key(l ...api.Member) api.Elem { return api.Elem{Kind: api.ElemKey, Key: l} }
func item(v api.Value) api.Elem    { return api.Elem{Kind: api.ElemItem, Item: v} }

func fields(l ...string) []api.Field {
	var to []api.Field
	for i := 0; i < len(l); i += 2 {
		to = append(to, api.Field{Name: l[i], Type: l[i+1]})
	}
	return to
}

var null = api.Value{}

// read is the value of a text.
func read(s string) api.Value {
	v, _, e := json.Parse([]byte(s), api.DeepRecord)
	if e != api.OK {
		panic(s)
	}
	return v
}

// way is the path of a text.
func way(s string) api.Path {
	p, _, e := path.Parse(s)
	if e != api.OK {
		panic(s)
	}
	return p
}

// set is the paths of texts.
func set(l ...string) []api.Path {
	var to []api.Path
	for _, s := range l {
		to = append(to, way(s))
	}
	return to
}

// show is a value as a test tells it.
func show(v api.Value) string {
	b, e := json.Print(v, api.DeepRecord)
	if e != api.OK || len(b) > 2000 {
		return fmt.Sprintf("a value of the kind %d (%d)", v.Kind, e)
	}
	return string(b)
}

// tell is paths as a test tells them.
func tell(l []api.Path) string {
	var s []string
	for _, p := range l {
		text, e := path.Text(p)
		if e != api.OK {
			text = fmt.Sprintf("no path %+v", p)
		}
		s = append(s, text)
	}
	if len(s) > 100 {
		return fmt.Sprintf("%d paths", len(s))
	}
	return strings.Join(s, " ")
}

// same tells whether two things of package api are the same, where nil and empty lists are.
func same(a, b any) bool { return sameOf(reflect.ValueOf(a), reflect.ValueOf(b)) }

func sameOf(a, b reflect.Value) bool {
	switch a.Kind() {
	case reflect.Slice:
		if a.Len() != b.Len() {
			return false
		}
		for i := range a.Len() {
			if !sameOf(a.Index(i), b.Index(i)) {
				return false
			}
		}
		return true
	case reflect.Struct:
		for i := range a.NumField() {
			if !sameOf(a.Field(i), b.Field(i)) {
				return false
			}
		}
		return true
	}
	return a.Equal(b)
}

// follow is what a name of a schema that may be means.
func follow(s api.Schema, name string) api.Type {
	if k := slices.Index([]string{"", "bool", "int", "string"}, name); k > 0 {
		return api.Type{Name: name, Kind: k}
	}
	for _, t := range s.Types {
		if t.Name == name && t.Kind == api.TypeName {
			return follow(s, t.Elem)
		}
		if t.Name == name {
			return t
		}
	}
	panic(name)
}

// isLeaf is the page's: a scalar, or something atomic.
func isLeaf(t api.Type) bool { return t.Kind <= 3 || t.Atomic || t.Kind == 6 && t.Rel == api.Whole }

// typeOfMember is the name of the type of a member; the empty one, if the struct has no such field.
func typeOfMember(t api.Type, key string) string {
	for _, f := range t.Fields {
		if f.Name == key {
			return f.Type
		}
	}
	return t.Elem
}

// keyOf is a key field of an element; null, if it is not there.
func keyOf(v api.Value, key string) api.Value {
	for _, m := range v.Map {
		if m.Key == key {
			return m.Val
		}
	}
	return null
}

// The bytes of a path keep its order: of two paths the one that stands first has the bytes that do, and those of a path begin those of another one just if it is above it. Each string ends with 0 1, and a 0 within is 0 255.
func stringBytes(s string) string { return strings.ReplaceAll(s, "\x00", "\x00\xff") + "\x00\x01" }

func scalarBytes(v api.Value) string {
	switch {
	case v.Kind == api.Bool && v.Bool:
		return "\x02"
	case v.Kind == api.Bool:
		return "\x01"
	case v.Kind == api.Int:
		return fmt.Sprintf("\x03%020d", uint64(v.Int)^(1<<63))
	}
	return "\x04" + stringBytes(v.Str)
}

func elemBytes(e api.Elem) string {
	switch e.Kind {
	case api.ElemField:
		return "\x01" + stringBytes(e.Name)
	case api.ElemKey:
		s := "\x02"
		for _, m := range e.Key {
			s += "\x01" + stringBytes(m.Key) + scalarBytes(m.Val)
		}
		return s + "\x00"
	}
	return "\x03" + scalarBytes(e.Item)
}

func pathBytes(p api.Path) string {
	s := ""
	for _, e := range p {
		s += elemBytes(e)
	}
	return s
}

// elemOf is the element that leads to a part of a list that is not atomic.
func elemOf(t api.Type, x api.Value) api.Elem {
	if t.Rel == api.Set {
		return item(x)
	}
	e := key()
	for _, k := range t.Keys {
		e.Key = append(e.Key, at(k, keyOf(x, k)))
	}
	return e
}

// behind is a path with one element more.
func behind(p api.Path, e api.Elem) api.Path { return append(slices.Clone(p), e) }

// bare is a value without the nulls among the members that it holds.
func bare(v api.Value) api.Value {
	to := api.Value{Kind: v.Kind, Bool: v.Bool, Int: v.Int, Str: v.Str}
	for _, x := range v.List {
		to.List = append(to.List, bare(x))
	}
	for _, m := range v.Map {
		if m.Val.Kind != api.Null {
			to.Map = append(to.Map, at(m.Key, bare(m.Val)))
		}
	}
	return to
}

// spot is a leaf: its path, and its value, if it has one.
type spot struct {
	path api.Path
	val  api.Value
}

// gather puts what stands at the leaves of a valid value into a map, by the bytes of their paths.
func gather(s api.Schema, typ string, v api.Value, p api.Path, to map[string]spot) {
	t := follow(s, typ)
	if isLeaf(t) {
		to[pathBytes(p)] = spot{p, bare(v)}
		return
	}
	for _, x := range v.List {
		q := behind(p, elemOf(t, x))
		to[pathBytes(q)] = spot{path: q}
		if t.Rel == api.Keyed {
			gather(s, t.Elem, x, q, to)
		}
		for _, k := range t.Keys {
			delete(to, pathBytes(behind(q, field(k))))
		}
	}
	for _, m := range v.Map {
		if m.Val.Kind != api.Null {
			gather(s, typeOfMember(t, m.Key), m.Val, behind(p, field(m.Key)), to)
		}
	}
}

func gathered(s api.Schema, typ string, v api.Value) map[string]spot {
	to := map[string]spot{}
	gather(s, typ, v, nil, to)
	return to
}

// chosenOf is the paths of those leaves, rising, for which a question is answered with yes.
func chosenOf(l map[string]spot, ask func(bytes string, x spot) bool) []api.Path {
	var to []api.Path
	for _, k := range slices.Sorted(maps.Keys(l)) {
		if ask(k, l[k]) {
			to = append(to, l[k].path)
		}
	}
	return to
}

// refused is the error of the first of some values that is not valid.
func refused(s api.Schema, typ string, l ...api.Value) api.Errno {
	for _, v := range l {
		if _, e := validate.Check(s, typ, v); e != api.OK {
			return e
		}
	}
	return api.OK
}

func wantDiff(s api.Schema, typ string, a, b api.Value) (api.Change, api.Errno) {
	if e := refused(s, typ, a, b); e != api.OK {
		return api.Change{}, e
	}
	was, is := gathered(s, typ, a), gathered(s, typ, b)
	lacks := func(l map[string]spot) func(k string, x spot) bool {
		return func(k string, x spot) bool { _, there := l[k]; return !there }
	}
	return api.Change{
		Added:   chosenOf(is, lacks(was)),
		Changed: chosenOf(is, func(k string, x spot) bool { y, there := was[k]; return there && !same(x.val, y.val) }),
		Removed: chosenOf(was, lacks(is)),
	}, api.OK
}

// piece is something that a value holds: what leads there, the name of its type, and itself.
type piece struct {
	elem api.Elem
	typ  string
	val  api.Value
}

// pieces is what a normal value of a type that is no leaf holds.
func pieces(t api.Type, v api.Value) []piece {
	var l []piece
	for _, x := range v.List {
		l = append(l, piece{elemOf(t, x), t.Elem, x})
	}
	for _, m := range v.Map {
		l = append(l, piece{field(m.Key), typeOfMember(t, m.Key), m.Val})
	}
	return l
}

// valueOf is the value of a type that holds some pieces.
func valueOf(t api.Type, l []piece) api.Value {
	l = slices.Clone(l)
	sort.Slice(l, func(i, k int) bool { return elemBytes(l[i].elem) < elemBytes(l[k].elem) })
	v := object()
	if t.Kind == api.TypeList {
		v = list()
	}
	for _, x := range l {
		if v.Kind == api.List {
			v.List = append(v.List, x.val)
		} else {
			v.Map = append(v.Map, at(x.elem.Name, x.val))
		}
	}
	return v
}

// laid is a normal value with another one laid over it.
func laid(s api.Schema, typ string, low, high api.Value) api.Value {
	t := follow(s, typ)
	if isLeaf(t) {
		return high
	}
	by := map[string]piece{}
	for _, x := range pieces(t, low) {
		by[elemBytes(x.elem)] = x
	}
	for _, x := range pieces(t, high) {
		if y, there := by[elemBytes(x.elem)]; there {
			x.val = laid(s, x.typ, y.val, x.val)
		}
		by[elemBytes(x.elem)] = x
	}
	return valueOf(t, slices.Collect(maps.Values(by)))
}

func wantMerge(s api.Schema, typ string, live, config api.Value) (api.Value, api.Errno) {
	if e := refused(s, typ, live, config); e != api.OK {
		return null, e
	}
	low, _ := validate.Normal(s, typ, live)
	high, _ := validate.Normal(s, typ, config)
	v := laid(s, typ, low, high)
	if e := value.Check(v, api.DeepRecord); e != api.OK {
		return null, e
	}
	return v, api.OK
}

// sifted is what is kept of a normal value at a path, and whether that is something. Of all that stands somewhere ask tells whether it goes with all that it holds, or, of a leaf, whether it is kept; keys are the fields that are kept with their element, whatever is asked.
func sifted(s api.Schema, typ string, v api.Value, p api.Path, keys []string, ask func(p api.Path, leaf bool) (gone, kept bool)) (api.Value, bool) {
	t := follow(s, typ)
	element := len(p) > 0 && p[len(p)-1].Kind == api.ElemKey
	gone, kept := ask(p, isLeaf(t) || element)
	if gone || isLeaf(t) {
		return v, kept && !gone
	}
	var rest []piece
	for _, x := range pieces(t, v) {
		is := true
		if !slices.Contains(keys, x.elem.Name) {
			x.val, is = sifted(s, x.typ, x.val, behind(p, x.elem), t.Keys, ask)
			kept = kept || is
		}
		if is {
			rest = append(rest, x)
		}
	}
	return valueOf(t, rest), kept
}

// wantPart is what Drop or Extract answer, as ask tells what is kept.
func wantPart(s api.Schema, typ string, v api.Value, l []api.Path, ask func(p api.Path, leaf bool) (gone, kept bool)) (api.Value, api.Errno) {
	if e := refused(s, typ, v); e != api.OK {
		return null, e
	}
	if e := pathset.Check(l); e != api.OK {
		return null, e
	}
	n, _ := validate.Normal(s, typ, v)
	x, is := sifted(s, typ, n, nil, nil, ask)
	switch t := follow(s, typ); {
	case is:
		return x, api.OK
	case isLeaf(t):
		return null, api.ErrLeaf
	default:
		return valueOf(t, nil), api.OK
	}
}

// among tells of paths whether they are some of these.
func among(l []api.Path) func(p api.Path) bool {
	by := map[string]bool{}
	for _, p := range l {
		by[pathBytes(p)] = true
	}
	return func(p api.Path) bool { return by[pathBytes(p)] }
}

func wantDrop(s api.Schema, typ string, v api.Value, out []api.Path) (api.Value, api.Errno) {
	has := among(out)
	return wantPart(s, typ, v, out, func(p api.Path, leaf bool) (bool, bool) { return has(p), leaf })
}

func wantExtract(s api.Schema, typ string, v api.Value, in []api.Path) (api.Value, api.Errno) {
	has := among(in)
	return wantPart(s, typ, v, in, func(p api.Path, leaf bool) (bool, bool) { return false, leaf && has(p) })
}

// checkDiff holds what Diff and Same answer against the second reading.
func checkDiff(t *testing.T, s api.Schema, typ string, a, b api.Value) api.Change {
	t.Helper()
	d, e := Diff(s, typ, a, b)
	want, f := wantDiff(s, typ, a, b)
	if e != f || !same(d, want) {
		t.Fatalf("P13.1: Diff(%+v, %s, %s, %s): added %s, changed %s, removed %s, %d, want %s, %s, %s, %d", s, typ, show(a), show(b), tell(d.Added), tell(d.Changed), tell(d.Removed), e, tell(want.Added), tell(want.Changed), tell(want.Removed), f)
	}
	none := len(want.Added)+len(want.Changed)+len(want.Removed) == 0
	if is, e := Same(s, typ, a, b); e != f || is != (none && f == api.OK) {
		t.Fatalf("P13.1: Same(%+v, %s, %s, %s) = %v, %d", s, typ, show(a), show(b), is, e)
	}
	for _, l := range [][]api.Path{d.Added, d.Changed, d.Removed} {
		if e := pathset.Check(l); e != api.OK {
			t.Fatalf("P13.1: %s is no set: %d", tell(l), e)
		}
	}
	return d
}

// checkMerge holds what Merge answers against the second reading.
func checkMerge(t *testing.T, s api.Schema, typ string, live, config api.Value) (api.Value, api.Errno) {
	t.Helper()
	v, e := Merge(s, typ, live, config)
	if want, f := wantMerge(s, typ, live, config); e != f || !same(v, want) || e == api.OK && !validate.IsNormal(s, typ, v) {
		t.Fatalf("P13.2: Merge(%+v, %s, %s, %s) = %s, %d, want %s, %d", s, typ, show(live), show(config), show(v), e, show(want), f)
	}
	return v, e
}

// checkParts holds what Drop and Extract answer against the second reading.
func checkParts(t *testing.T, s api.Schema, typ string, v api.Value, l []api.Path) (left, of api.Value, e api.Errno) {
	t.Helper()
	left, e = Drop(s, typ, v, l)
	if want, f := wantDrop(s, typ, v, l); e != f || !same(left, want) || e == api.OK && !validate.IsNormal(s, typ, left) {
		t.Fatalf("P13.3: Drop(%+v, %s, %s, %s) = %s, %d, want %s, %d", s, typ, show(v), tell(l), show(left), e, show(want), f)
	}
	of, g := Extract(s, typ, v, l)
	if want, f := wantExtract(s, typ, v, l); g != f || !same(of, want) || g == api.OK && !validate.IsNormal(s, typ, of) {
		t.Fatalf("P13.3: Extract(%+v, %s, %s, %s) = %s, %d, want %s, %d", s, typ, show(v), tell(l), show(of), g, show(want), f)
	}
	if e == api.OK {
		e = g
	}
	return left, of, e
}

// pickOf is one of some things.
func pickOf[T any](r *rand.Rand, l ...T) T { return l[r.Intn(len(l))] }

// pickSchema makes schemas that may be, with types of every sort.
func pickSchema(r *rand.Rand) api.Schema {
	scalars := []string{"bool", "int", "string", "c0", "c1", "c2", "d"}
	all := append(slices.Clone(scalars), "e0", "e1", "f", "k0", "k1", "m0", "m1", "s0", "s1", "t0", "t1", "w0", "w1", "z")
	any := func() string { return pickOf(r, all...) }
	keyed := func(n string) api.Type {
		return api.Type{Name: n, Kind: api.TypeList, Rel: api.Keyed, Elem: pickOf(r, "e0", "e1", "f"), Keys: pickOf(r, []string{"a"}, []string{"b"}, []string{"a", "b"})}
	}
	set := func(n string) api.Type {
		return api.Type{Name: n, Kind: api.TypeList, Rel: api.Set, Elem: pickOf(r, scalars...)}
	}
	of := func(n string, atomic bool, a, b string) api.Type {
		return api.Type{Name: n, Kind: api.TypeStruct, Atomic: atomic, Fields: fields("a", a, "b", b, "c", any(), "c/~", any(), "\u00e9", any())}
	}
	return api.Schema{Types: []api.Type{
		{Name: "c0", Kind: api.TypeInt, Enum: []api.Value{num(-3), num(0), num(7)}},
		{Name: "c1", Kind: api.TypeStr, Enum: []api.Value{text(""), text("b"), text("bb")}},
		{Name: "c2", Kind: api.TypeBool, Enum: []api.Value{truth(true)}},
		{Name: "d", Kind: api.TypeName, Elem: pickOf(r, "c0", "c1", "int")},
		of("e0", false, pickOf(r, scalars...), pickOf(r, scalars...)),
		of("e1", false, pickOf(r, scalars...), pickOf(r, scalars...)),
		{Name: "f", Kind: api.TypeName, Elem: "e1"},
		keyed("k0"), keyed("k1"),
		{Name: "m0", Kind: api.TypeMap, Elem: any()},
		{Name: "m1", Kind: api.TypeMap, Atomic: true, Elem: any()},
		set("s0"), set("s1"),
		of("t0", false, any(), any()), of("t1", true, any(), any()),
		{Name: "w0", Kind: api.TypeList, Elem: any()}, {Name: "w1", Kind: api.TypeList, Elem: "k0"},
		{Name: "z", Kind: api.TypeName, Elem: pickOf(r, "k0", "k1", "m0", "m1", "s0", "t0", "t1", "w0")},
	}, Roots: []api.Root{{Kind: "app", Type: "t0"}, {Kind: "job", Type: "m0"}, {Kind: "web", Type: "f"}}}
}

func pickScalar(r *rand.Rand, t api.Type) api.Value {
	if len(t.Enum) > 0 {
		return pickOf(r, t.Enum...)
	}
	switch t.Kind {
	case api.TypeBool:
		return truth(r.Intn(2) == 0)
	case api.TypeInt:
		return pickOf(r, num(-3), num(0), num(1), num(7), num(10), num(math.MaxInt64), num(math.MinInt64))
	}
	return pickOf(r, text(""), text("a"), text("b"), text("bb"), text("\u00e9"), text("\x00"), text("1"), text("true"))
}

// pickValue makes valid values of a type.
func pickValue(r *rand.Rand, s api.Schema, typ string, depth int) api.Value {
	t := follow(s, typ)
	if t.Kind <= api.TypeStr {
		return pickScalar(r, t)
	}
	v := api.Value{Kind: api.Map}
	if t.Kind == api.TypeList {
		v.Kind = api.List
	}
	if depth <= 0 || r.Intn(12) == 0 {
		return v
	}
	if v.Kind == api.List {
		for range r.Intn(5) {
			x := pickValue(r, s, t.Elem, depth-1)
			for _, k := range t.Keys {
				x, _ = value.With(x, k, pickScalar(r, follow(s, typeOfMember(follow(s, t.Elem), k))))
			}
			more := append(slices.Clone(v.List), x)
			if _, e := validate.Check(s, typ, list(more...)); e == api.OK {
				v.List = more
			}
		}
		return v
	}
	for _, k := range []string{"", "a", "b", "c", "c/~", "~1", "\u00e9"} {
		if of := typeOfMember(t, k); of != "" && r.Intn(2) == 0 {
			x := pickValue(r, s, of, depth-1)
			if r.Intn(6) == 0 {
				x = null
			}
			v.Map = append(v.Map, at(k, x))
		}
	}
	return v
}

// names is the types that a schema's values are asked for.
func names(s api.Schema) []string {
	l := []string{"int", "string", "bool"}
	for _, t := range s.Types {
		l = append(l, t.Name, t.Name)
	}
	return l
}

// vary is a valid value that has much in common with another one.
func vary(r *rand.Rand, s api.Schema, typ string, v api.Value, depth int) api.Value {
	t := follow(s, typ)
	if v.Kind == api.Null || r.Intn(8) == 0 || isLeaf(t) && r.Intn(3) == 0 {
		return pickValue(r, s, typ, depth)
	}
	if isLeaf(t) {
		return v
	}
	to, more := api.Value{Kind: v.Kind}, pickValue(r, s, typ, depth)
	for _, x := range v.List {
		if t.Rel == api.Keyed {
			x = vary(r, s, t.Elem, x, depth-1)
		}
		if r.Intn(5) > 0 {
			to.List = append(to.List, x)
		}
	}
	r.Shuffle(len(to.List), func(i, k int) { to.List[i], to.List[k] = to.List[k], to.List[i] })
	to.List = append(to.List, more.List[:r.Intn(len(more.List)+1)]...)
	for _, m := range v.Map {
		if r.Intn(5) > 0 {
			to.Map = append(to.Map, at(m.Key, vary(r, s, typeOfMember(t, m.Key), m.Val, depth-1)))
		}
	}
	for _, m := range more.Map {
		if _, there := value.Get(to, m.Key); !there && r.Intn(3) == 0 {
			to, _ = value.With(to, m.Key, m.Val)
		}
	}
	if refused(s, typ, to) != api.OK {
		return v
	}
	return to
}

// spoil is a value of which something is another one; most of the times it is not valid.
func spoil(r *rand.Rand, v api.Value) api.Value {
	n := len(v.List) + len(v.Map)
	if n == 0 || r.Intn(3) == 0 {
		return pickOf(r, null, truth(true), num(5), text("q"), list(), object(), list(null), list(v, v), object(at("q", v)), api.Value{Kind: 9}, api.Value{Kind: api.Int, Str: "a"})
	}
	v = roomy(v)
	if i := r.Intn(n); i < len(v.List) {
		v.List[i] = spoil(r, v.List[i])
	} else {
		v.Map[i].Val = spoil(r, v.Map[i].Val)
	}
	return v
}

// pickPaths is paths of leaves of a value, above them, below them and beside them, in no order.
func pickPaths(r *rand.Rand, s api.Schema, typ string, v api.Value) []api.Path {
	all := append(chosenOf(gathered(s, typ, v), func(string, spot) bool { return true }), nil)
	one := func() api.Value { return pickScalar(r, api.Type{Kind: 1 + r.Intn(3)}) }
	var ps []api.Path
	for range r.Intn(8) {
		p := pickOf(r, all...)
		e := pickOf(r, field("a"), field("b"), field("c"), field(""), item(one()), key(at("a", one())), key(at("b", one())), key(at("a", one()), at("b", one())))
		cut := p[:r.Intn(len(p)+1)]
		ps = append(ps, pickOf(r, p, p, p, p, cut, behind(p, e), behind(cut, e)))
	}
	return ps
}

// pickSet is such paths as a set.
func pickSet(r *rand.Rand, s api.Schema, typ string, v api.Value) []api.Path {
	l, e := pathset.Of(pickPaths(r, s, typ, v))
	if e != api.OK {
		panic(e)
	}
	return l
}

// room is the memory of a list, its spare room too.
type room struct{ from, to uintptr }

// rooms is the memory of all lists of a thing of package api.
func rooms(x any) []room { return roomsOf(reflect.ValueOf(x)) }

func roomsOf(v reflect.Value) []room {
	var l []room
	switch v.Kind() {
	case reflect.Slice:
		if v.Cap() > 0 {
			l = append(l, room{v.Pointer(), v.Pointer() + uintptr(v.Cap())*v.Type().Elem().Size()})
		}
		for i := range v.Len() {
			l = append(l, roomsOf(v.Index(i))...)
		}
	case reflect.Struct:
		for i := range v.NumField() {
			l = append(l, roomsOf(v.Field(i))...)
		}
	}
	return l
}

// checkApart holds rooms against each other: no two may have memory in common.
func checkApart(t *testing.T, what string, l []room) {
	t.Helper()
	sort.Slice(l, func(i, k int) bool { return l[i].from < l[k].from })
	for i := 1; i < len(l); i++ {
		if l[i].from < l[i-1].to {
			t.Fatalf("memory: %s: two lists share some", what)
		}
	}
}

// roomy is a thing of package api in memory of its own whose lists have spare room, with something in it; empty lists too.
func roomy[T any](x T) T { return roomyOf(reflect.ValueOf(x)).Interface().(T) }

func roomyOf(v reflect.Value) reflect.Value {
	to := reflect.New(v.Type()).Elem()
	switch v.Kind() {
	case reflect.Slice:
		to.Set(reflect.MakeSlice(v.Type(), v.Len()+2, v.Len()+2))
		for i := range v.Len() {
			to.Index(i).Set(roomyOf(v.Index(i)))
		}
		for i := v.Len(); i < to.Len(); i++ {
			mark(to.Index(i))
		}
		to.SetLen(v.Len())
	case reflect.Struct:
		for i := range v.NumField() {
			to.Field(i).Set(roomyOf(v.Field(i)))
		}
	default:
		to.Set(v)
	}
	return to
}

// mark writes something into all strings and numbers of a thing.
func mark(v reflect.Value) {
	switch v.Kind() {
	case reflect.String:
		v.SetString("scribble")
	case reflect.Int:
		v.SetInt(77)
	case reflect.Struct:
		for i := range v.NumField() {
			mark(v.Field(i))
		}
	}
}

// whole tells a thing with the spare room of its lists as if it were part of them.
func whole(x any) string { return fmt.Sprint(wholeOf(reflect.ValueOf(x))) }

func wholeOf(v reflect.Value) any {
	l := []any{}
	switch v.Kind() {
	case reflect.Slice:
		if v.Cap() > 0 {
			l = append(l, v.Pointer())
		}
		v = v.Slice(0, v.Cap())
		for i := range v.Len() {
			l = append(l, wholeOf(v.Index(i)))
		}
		return l
	case reflect.Struct:
		for i := range v.NumField() {
			l = append(l, wholeOf(v.Field(i)))
		}
		return l
	}
	return fmt.Sprintf("%#v", v.Interface())
}

// scribble writes over all that a thing's lists hold, spare room too.
func scribble(x any) { scribbleOf(reflect.ValueOf(x)) }

func scribbleOf(v reflect.Value) {
	switch v.Kind() {
	case reflect.Slice:
		v = v.Slice(0, v.Cap())
		for i := range v.Len() {
			scribbleOf(v.Index(i))
			mark(v.Index(i))
		}
	case reflect.Struct:
		for i := range v.NumField() {
			scribbleOf(v.Field(i))
		}
	}
}
