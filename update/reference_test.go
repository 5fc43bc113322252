package update

import (
	"cmp"
	"fmt"
	"maps"
	"math"
	"math/rand"
	"reflect"
	"slices"
	"sort"
	"strings"
	"testing"

	"freehold/api"
	"freehold/json"
	"freehold/path"
	"freehold/record"
	"freehold/schema"
	"freehold/validate"
	"freehold/value"
)

// What the tests hold the package against, written from the words of the page in other ways than the package's own: an object is taken apart into its leaves, gathered by going down the value, and into single owners, each of one leaf in one way, which are struck out and put in one by one.

func num(n int) api.Value                 { return api.Value{Kind: api.Int, Int: n} }
func text(s string) api.Value             { return api.Value{Kind: api.Str, Str: s} }
func truth(b bool) api.Value              { return api.Value{Kind: api.Bool, Bool: b} }
func list(l ...api.Value) api.Value       { return api.Value{Kind: api.List, List: l} }
func object(l ...api.Member) api.Value    { return api.Value{Kind: api.Map, Map: l} }
func at(k string, v api.Value) api.Member { return api.Member{Key: k, Val: v} }

func field(name string) api.Elem   { return api.Elem{Kind: api.ElemField, Name: name} }
func key(l ...api.Member) api.Elem { return api.Elem{Kind: api.ElemKey, Key: l} }
func item(v api.Value) api.Elem    { return api.Elem{Kind: api.ElemItem, Item: v} }

func fields(l ...string) []api.Field {
	var to []api.Field
	for i := 0; i < len(l); i += 2 {
		to = append(to, api.Field{Name: l[i], Type: l[i+1]})
	}
	return to
}

var null = api.Value{}

// read is the value of a text.
func read(s string) api.Value {
	v, _, e := json.Parse([]byte(s), api.DeepRecord)
	if e != api.OK {
		panic(s)
	}
	return v
}

// way is the path of a text.
func way(s string) api.Path {
	p, _, e := path.Parse(s)
	if e != api.OK {
		panic(s)
	}
	return p
}

// set is the paths of texts.
func set(l ...string) []api.Path {
	var to []api.Path
	for _, s := range l {
		to = append(to, way(s))
	}
	return to
}

// entry is an entry by the texts of its paths.
func entry(manager string, way int, l ...string) api.Entry {
	return api.Entry{Manager: manager, Way: way, Fields: set(l...)}
}

// of is the object of a value's text and some entries.
func of(v string, l ...api.Entry) api.Object { return api.Object{Value: read(v), Entries: l} }

// tell is a thing of package api as a test tells it.
func tell(x any) string {
	s := fmt.Sprintf("%+v", x)
	if len(s) > 2000 {
		return fmt.Sprintf("%s .. (%d bytes)", s[:400], len(s))
	}
	return s
}

// same tells whether two things of package api are the same, where nil and empty lists are.
func same(a, b any) bool { return sameOf(reflect.ValueOf(a), reflect.ValueOf(b)) }

func sameOf(a, b reflect.Value) bool {
	switch a.Kind() {
	case reflect.Slice:
		if a.Len() != b.Len() {
			return false
		}
		for i := range a.Len() {
			if !sameOf(a.Index(i), b.Index(i)) {
				return false
			}
		}
		return true
	case reflect.Struct:
		for i := range a.NumField() {
			if !sameOf(a.Field(i), b.Field(i)) {
				return false
			}
		}
		return true
	}
	return a.Equal(b)
}

// follow is what a name of a schema that may be means.
func follow(s api.Schema, name string) api.Type {
	if k := slices.Index([]string{"", "bool", "int", "string"}, name); k > 0 {
		return api.Type{Name: name, Kind: k}
	}
	for _, t := range s.Types {
		if t.Name == name && t.Kind == api.TypeName {
			return follow(s, t.Elem)
		}
		if t.Name == name {
			return t
		}
	}
	panic(name)
}

// isLeaf is the page's: a scalar, or something atomic.
func isLeaf(t api.Type) bool { return t.Kind <= 3 || t.Atomic || t.Kind == 6 && t.Rel == api.Whole }

// typeOfMember is the name of the type of a member; the empty one, if the struct has no such field.
func typeOfMember(t api.Type, key string) string {
	for _, f := range t.Fields {
		if f.Name == key {
			return f.Type
		}
	}
	return t.Elem
}

// keyOf is a key field of an element; null, if it is not there.
func keyOf(v api.Value, key string) api.Value {
	for _, m := range v.Map {
		if m.Key == key {
			return m.Val
		}
	}
	return null
}

// The bytes of a path keep its order: of two paths the one that stands first has the bytes that do, and those of a path begin those of another one just if it is above it. Each string ends with 0 1, and a 0 within is 0 255.
func stringBytes(s string) string { return strings.ReplaceAll(s, "\x00", "\x00\xff") + "\x00\x01" }

func scalarBytes(v api.Value) string {
	switch {
	case v.Kind == api.Bool && v.Bool:
		return "\x02"
	case v.Kind == api.Bool:
		return "\x01"
	case v.Kind == api.Int:
		return fmt.Sprintf("\x03%020d", uint64(v.Int)^(1<<63))
	}
	return "\x04" + stringBytes(v.Str)
}

func elemBytes(e api.Elem) string {
	switch e.Kind {
	case api.ElemField:
		return "\x01" + stringBytes(e.Name)
	case api.ElemKey:
		s := "\x02"
		for _, m := range e.Key {
			s += "\x01" + stringBytes(m.Key) + scalarBytes(m.Val)
		}
		return s + "\x00"
	}
	return "\x03" + scalarBytes(e.Item)
}

func pathBytes(p api.Path) string {
	s := ""
	for _, e := range p {
		s += elemBytes(e)
	}
	return s
}

// elemOf is the element that leads to a part of a list that is not atomic.
func elemOf(t api.Type, x api.Value) api.Elem {
	if t.Rel == api.Set {
		return item(x)
	}
	e := key()
	for _, k := range t.Keys {
		e.Key = append(e.Key, at(k, keyOf(x, k)))
	}
	return e
}

// behind is a path with one element more.
func behind(p api.Path, e api.Elem) api.Path { return append(slices.Clone(p), e) }

// bare is a value without the nulls among the members that it holds.
func bare(v api.Value) api.Value {
	to := api.Value{Kind: v.Kind, Bool: v.Bool, Int: v.Int, Str: v.Str}
	for _, x := range v.List {
		to.List = append(to.List, bare(x))
	}
	for _, m := range v.Map {
		if m.Val.Kind != api.Null {
			to.Map = append(to.Map, at(m.Key, bare(m.Val)))
		}
	}
	return to
}

// spot is a leaf: its path, and its value, if it has one.
type spot struct {
	path api.Path
	val  api.Value
}

// gather puts what stands at the leaves of a valid value into a map, by the bytes of their paths.
func gather(s api.Schema, typ string, v api.Value, p api.Path, to map[string]spot) {
	t := follow(s, typ)
	if isLeaf(t) {
		to[pathBytes(p)] = spot{p, bare(v)}
		return
	}
	for _, x := range v.List {
		q := behind(p, elemOf(t, x))
		to[pathBytes(q)] = spot{path: q}
		if t.Rel == api.Keyed {
			gather(s, t.Elem, x, q, to)
		}
		for _, k := range t.Keys {
			delete(to, pathBytes(behind(q, field(k))))
		}
	}
	for _, m := range v.Map {
		if m.Val.Kind != api.Null {
			gather(s, typeOfMember(t, m.Key), m.Val, behind(p, field(m.Key)), to)
		}
	}
}

func gathered(s api.Schema, typ string, v api.Value) map[string]spot {
	to := map[string]spot{}
	gather(s, typ, v, nil, to)
	return to
}

// owner is that somebody has a leaf in a way.
type owner struct {
	bytes   string // of the leaf's path
	manager string
	way     int
}

// state is an object taken apart.
type state struct {
	leaves map[string]spot // by the bytes of their paths
	owners map[owner]int
}

func stateOf(s api.Schema, typ string, o api.Object) state {
	x := state{gathered(s, typ, o.Value), map[owner]int{}}
	for _, e := range o.Entries {
		for _, p := range e.Fields {
			x.owners[owner{pathBytes(p), e.Manager, e.Way}] = 1
		}
	}
	return x
}

// entries puts owners together again. Each must have a leaf.
func (x state) entries() []api.Entry {
	var l []api.Entry
	for _, o := range slices.SortedFunc(maps.Keys(x.owners), func(a, b owner) int {
		return cmp.Or(strings.Compare(a.manager, b.manager), cmp.Compare(a.way, b.way), strings.Compare(a.bytes, b.bytes))
	}) {
		leaf, there := x.leaves[o.bytes]
		if !there {
			panic("owned, but no leaf")
		}
		n := len(l) - 1
		if n < 0 || l[n].Manager != o.manager || l[n].Way != o.way {
			l, n = append(l, api.Entry{Manager: o.manager, Way: o.way}), n+1
		}
		l[n].Fields = append(l[n].Fields, leaf.path)
	}
	return l
}

// paths is leaves' paths, rising.
func paths(l map[string]spot) []api.Path {
	var to []api.Path
	for _, k := range slices.Sorted(maps.Keys(l)) {
		to = append(to, l[k].path)
	}
	return to
}

// parts is what was added, changed and removed from some leaves to others, and what is as it was.
func parts(was, is map[string]spot) (added, changed, removed, stayed map[string]spot) {
	added, changed, removed, stayed = map[string]spot{}, map[string]spot{}, map[string]spot{}, map[string]spot{}
	for k, leaf := range is {
		old, there := was[k]
		switch {
		case !there:
			added[k] = leaf
		case same(old.val, leaf.val):
			stayed[k] = leaf
		default:
			changed[k] = leaf
		}
	}
	for k, leaf := range was {
		if _, there := is[k]; !there {
			removed[k] = leaf
		}
	}
	return added, changed, removed, stayed
}

// write is what an Update, or a Create, is asked with.
type write struct {
	s       api.Schema
	typ     string
	o       api.Object
	there   bool // else it is a Create
	manager string
	v       api.Value
}

func (a write) tell() string {
	return fmt.Sprintf("%s to %s (%v) by %q of %s, schema %s", tell(a.o), tell(a.v), a.there, a.manager, a.typ, tell(a.s))
}

// call is the package's answer.
func (a write) call() (api.Object, api.Errno) {
	if !a.there {
		return Create(a.s, a.typ, a.manager, a.v)
	}
	return Update(a.s, a.typ, a.o, a.manager, a.v)
}

// refused is what is wrong with what was handed in, the first of it.
func (a write) refused() api.Errno {
	_, means := schema.Means(a.s, a.typ)
	sound, name := api.OK, api.OK
	if a.there {
		sound = record.Check(a.s, a.typ, a.o)
	}
	if n := len(a.manager); n == 0 || n > 64 || strings.ToValidUTF8(a.manager, "") != a.manager {
		name = api.ErrName
	}
	_, valid := validate.Check(a.s, a.typ, a.v)
	for _, e := range []api.Errno{schema.Check(a.s), means, sound, name, valid} {
		if e != api.OK {
			return e
		}
	}
	return api.OK
}

// want is the page's answer: of each leaf that is removed the owners go, of each that is changed all but the writer by update, and what is added or changed is the writer's.
func (a write) want() (api.Object, api.Errno) {
	if e := a.refused(); e != api.OK {
		return api.Object{}, e
	}
	x, is := state{map[string]spot{}, map[owner]int{}}, gathered(a.s, a.typ, a.v)
	if a.there {
		x = stateOf(a.s, a.typ, a.o)
	}
	for o := range x.owners {
		leaf, there := is[o.bytes]
		mine := o.manager == a.manager && o.way == 2
		if !there || !mine && !same(leaf.val, x.leaves[o.bytes].val) {
			delete(x.owners, o)
		}
	}
	for k, leaf := range is {
		if old, there := x.leaves[k]; !there || !same(leaf.val, old.val) {
			x.owners[owner{k, a.manager, 2}] = 1
		}
	}
	x.leaves = is
	l := x.entries()
	if len(l) > 64 {
		return api.Object{}, api.ErrManagers
	}
	v, e := validate.Normal(a.s, a.typ, a.v)
	return api.Object{Value: v, Entries: l}, e
}

// check holds the package's answer against the page's.
func (a write) check(t *testing.T) (api.Object, api.Errno) {
	t.Helper()
	o, e := a.call()
	want, f := a.want()
	if e != f || !same(o, want) {
		t.Fatalf("P17.1, P17.2: %s = %s, %d, want %s, %d", a.tell(), tell(o), e, tell(want), f)
	}
	return o, e
}

// swing is what a writer gains, and what all lose.
type swing struct{ gained, lost []api.Path }

func wantGains(s api.Schema, typ string, old, now api.Value) (swing, api.Errno) {
	for _, v := range []api.Value{old, now} {
		if _, e := validate.Check(s, typ, v); e != api.OK {
			return swing{}, e
		}
	}
	added, changed, removed, _ := parts(gathered(s, typ, old), gathered(s, typ, now))
	maps.Copy(added, changed)
	return swing{paths(added), paths(removed)}, api.OK
}

func checkGains(t *testing.T, s api.Schema, typ string, old, now api.Value) (swing, api.Errno) {
	t.Helper()
	gained, lost, e := Gains(s, typ, old, now)
	want, f := wantGains(s, typ, old, now)
	if e != f || !same(swing{gained, lost}, want) {
		t.Fatalf("P17.3: Gains of %s from %s to %s = %s, %s, %d, want %s, %d", typ, tell(old), tell(now), tell(gained), tell(lost), e, tell(want), f)
	}
	return want, e
}

// among tells of paths whether they are some of these.
func among(l []api.Path) func(p api.Path) bool {
	by := map[string]bool{}
	for _, p := range l {
		by[pathBytes(p)] = true
	}
	return func(p api.Path) bool { return by[pathBytes(p)] }
}

// lacking is the elements above a path that are none of some paths.
func lacking(p api.Path, has func(p api.Path) bool) []api.Path {
	var l []api.Path
	for n := 1; n < len(p); n++ {
		if p[n-1].Kind == api.ElemKey && !has(p[:n]) {
			l = append(l, p[:n])
		}
	}
	return l
}

// pickOf is one of some things.
func pickOf[T any](r *rand.Rand, l ...T) T { return l[r.Intn(len(l))] }

// pickSchema makes schemas that may be, with types of every sort.
func pickSchema(r *rand.Rand) api.Schema {
	scalars := []string{"bool", "int", "string", "c0", "c1", "c2", "d"}
	all := append(slices.Clone(scalars), "e0", "e1", "f", "k0", "k1", "m0", "m1", "s0", "s1", "t0", "t1", "w0", "w1", "z")
	any := func() string { return pickOf(r, all...) }
	keyed := func(n string) api.Type {
		return api.Type{Name: n, Kind: api.TypeList, Rel: api.Keyed, Elem: pickOf(r, "e0", "e1", "f"), Keys: pickOf(r, []string{"a"}, []string{"b"}, []string{"a", "b"})}
	}
	set := func(n string) api.Type {
		return api.Type{Name: n, Kind: api.TypeList, Rel: api.Set, Elem: pickOf(r, scalars...)}
	}
	of := func(n string, atomic bool, a, b string) api.Type {
		return api.Type{Name: n, Kind: api.TypeStruct, Atomic: atomic, Fields: fields("a", a, "b", b, "c", any(), "c/~", any(), "\u00e9", any())}
	}
	return api.Schema{Types: []api.Type{
		{Name: "c0", Kind: api.TypeInt, Enum: []api.Value{num(-3), num(0), num(7)}},
		{Name: "c1", Kind: api.TypeStr, Enum: []api.Value{text(""), text("b"), text("bb")}},
		{Name: "c2", Kind: api.TypeBool, Enum: []api.Value{truth(true)}},
		{Name: "d", Kind: api.TypeName, Elem: pickOf(r, "c0", "c1", "int")},
		of("e0", false, pickOf(r, scalars...), pickOf(r, scalars...)),
		of("e1", false, pickOf(r, scalars...), pickOf(r, scalars...)),
		{Name: "f", Kind: api.TypeName, Elem: "e1"},
		keyed("k0"), keyed("k1"),
		{Name: "m0", Kind: api.TypeMap, Elem: any()},
		{Name: "m1", Kind: api.TypeMap, Atomic: true, Elem: any()},
		set("s0"), set("s1"),
		of("t0", false, any(), any()), of("t1", true, any(), any()),
		{Name: "w0", Kind: api.TypeList, Elem: any()}, {Name: "w1", Kind: api.TypeList, Elem: "k0"},
		{Name: "z", Kind: api.TypeName, Elem: pickOf(r, "k0", "k1", "m0", "m1", "s0", "t0", "t1", "w0")},
	}, Roots: []api.Root{{Kind: "app", Type: "t0"}, {Kind: "job", Type: "m0"}, {Kind: "web", Type: "f"}}}
}

func pickScalar(r *rand.Rand, t api.Type) api.Value {
	if len(t.Enum) > 0 {
		return pickOf(r, t.Enum...)
	}
	switch t.Kind {
	case api.TypeBool:
		return truth(r.Intn(2) == 0)
	case api.TypeInt:
		return pickOf(r, num(-3), num(0), num(1), num(7), num(10), num(math.MaxInt64), num(math.MinInt64))
	}
	return pickOf(r, text(""), text("a"), text("b"), text("bb"), text("\u00e9"), text("\x00"), text("1"), text("true"))
}

// pickValue makes valid values of a type.
func pickValue(r *rand.Rand, s api.Schema, typ string, depth int) api.Value {
	t := follow(s, typ)
	if t.Kind <= api.TypeStr {
		return pickScalar(r, t)
	}
	v := api.Value{Kind: api.Map}
	if t.Kind == api.TypeList {
		v.Kind = api.List
	}
	if depth <= 0 || r.Intn(12) == 0 {
		return v
	}
	if v.Kind == api.List {
		for range r.Intn(5) {
			x := pickValue(r, s, t.Elem, depth-1)
			for _, k := range t.Keys {
				x, _ = value.With(x, k, pickScalar(r, follow(s, typeOfMember(follow(s, t.Elem), k))))
			}
			more := append(slices.Clone(v.List), x)
			if _, e := validate.Check(s, typ, list(more...)); e == api.OK {
				v.List = more
			}
		}
		return v
	}
	for _, k := range []string{"", "a", "b", "c", "c/~", "~1", "\u00e9"} {
		if of := typeOfMember(t, k); of != "" && r.Intn(2) == 0 {
			x := pickValue(r, s, of, depth-1)
			if r.Intn(6) == 0 {
				x = null
			}
			v.Map = append(v.Map, at(k, x))
		}
	}
	return v
}

// names is the types that a schema's values are asked for.
func names(s api.Schema) []string {
	l := []string{"int", "string", "bool"}
	for _, t := range s.Types {
		l = append(l, t.Name, t.Name)
	}
	return l
}

// pickNormal is a type and a normal value of it, seldom one of few leaves.
func pickNormal(r *rand.Rand, s api.Schema) (typ string, v api.Value) {
	for range 4 {
		typ = pickOf(r, names(s)...)
		n, e := validate.Normal(s, typ, pickValue(r, s, typ, 5))
		if e != api.OK {
			panic(e)
		}
		if v = n; len(gathered(s, typ, v)) > 4 {
			break
		}
	}
	return typ, v
}

// vary is a valid value that has much in common with another one.
func vary(r *rand.Rand, s api.Schema, typ string, v api.Value, depth int) api.Value {
	t := follow(s, typ)
	if v.Kind == api.Null || r.Intn(8) == 0 || isLeaf(t) && r.Intn(3) == 0 {
		return pickValue(r, s, typ, depth)
	}
	if isLeaf(t) {
		return v
	}
	to, more := api.Value{Kind: v.Kind}, pickValue(r, s, typ, depth)
	for _, x := range v.List {
		if t.Rel == api.Keyed {
			x = vary(r, s, t.Elem, x, depth-1)
		}
		if r.Intn(5) > 0 {
			to.List = append(to.List, x)
		}
	}
	r.Shuffle(len(to.List), func(i, k int) { to.List[i], to.List[k] = to.List[k], to.List[i] })
	to.List = append(to.List, more.List[:r.Intn(len(more.List)+1)]...)
	for _, m := range v.Map {
		if r.Intn(5) > 0 {
			to.Map = append(to.Map, at(m.Key, vary(r, s, typeOfMember(t, m.Key), m.Val, depth-1)))
		}
	}
	for _, m := range more.Map {
		if _, there := value.Get(to, m.Key); !there && r.Intn(3) == 0 {
			to, _ = value.With(to, m.Key, m.Val)
		}
	}
	if _, e := validate.Check(s, typ, to); e != api.OK {
		return v
	}
	return to
}

// rising is paths in their order.
func rising(l map[string]api.Path) []api.Path {
	var to []api.Path
	for _, k := range slices.Sorted(maps.Keys(l)) {
		to = append(to, l[k])
	}
	return to
}

// pickEntries is entries that own leaves, those by apply with the elements above them.
func pickEntries(r *rand.Rand, all []api.Path) []api.Entry {
	var l []api.Entry
	rare := pickOf(r, 2, 5, 10)
	for _, manager := range []string{"a", "a\x00", "b", "kubectl", "\u00e9"} {
		mine := map[string]api.Path{}
		for way := 1; way <= 2; way++ {
			some := map[string]api.Path{}
			for _, p := range all {
				if _, had := mine[pathBytes(p)]; r.Intn(rare) == 0 && !had {
					some[pathBytes(p)] = p
				}
			}
			for _, p := range rising(some) {
				for _, q := range lacking(p, func(api.Path) bool { return way == 2 }) {
					some[pathBytes(q)] = q
				}
			}
			maps.Copy(mine, some)
			if len(some) > 0 && r.Intn(2) == 0 {
				l = append(l, api.Entry{Manager: manager, Way: way, Fields: rising(some)})
			}
		}
	}
	return l
}

// pickObject is a type and a sound object of it.
func pickObject(r *rand.Rand, s api.Schema) (string, api.Object) {
	typ, v := pickNormal(r, s)
	return typ, api.Object{Value: v, Entries: pickEntries(r, paths(gathered(s, typ, v)))}
}

// spoil is a value of which something is another one; most of the times it is not valid.
func spoil(r *rand.Rand, v api.Value) api.Value {
	n := len(v.List) + len(v.Map)
	if n == 0 || r.Intn(3) == 0 {
		return pickOf(r, null, truth(true), num(5), text("q"), list(), object(), list(null), list(v, v), object(at("q", v)), api.Value{Kind: 9}, api.Value{Kind: api.Int, Str: "a"})
	}
	v = roomy(v)
	if i := r.Intn(n); i < len(v.List) {
		v.List[i] = spoil(r, v.List[i])
	} else {
		v.Map[i].Val = spoil(r, v.Map[i].Val)
	}
	return v
}

// shake is a value in which lists are in another order, or nulls and empty things are put in; many of them are valid, but not normal.
func shake(r *rand.Rand, v api.Value) api.Value {
	v = roomy(v)
	for i := range v.Map {
		v.Map[i].Val = shake(r, v.Map[i].Val)
	}
	if v.Kind == api.List {
		r.Shuffle(len(v.List), func(i, k int) { v.List[i], v.List[k] = v.List[k], v.List[i] })
	}
	if v.Kind == api.Map && r.Intn(3) == 0 {
		v, _ = value.With(v, pickOf(r, "a", "b", "c", "c/~", "\u00e9"), pickOf(r, null, list(), object()))
	}
	return v
}

// nearPath is a path with one element more, less or unlike.
func nearPath(r *rand.Rand, p api.Path) api.Path {
	e := pickOf(r, field("a"), field("b"), field("c"), field("id"), item(num(1)), key(at("a", num(0))), api.Elem{}, field("\xff"))
	n := r.Intn(len(p) + 1)
	return pickOf(r, roomy(p[:n]), behind(p, e), behind(p[:n], e))
}

// spoilEntries changes something of entries; many of them may be behind it, and own what is no leaf.
func spoilEntries(r *rand.Rand, l []api.Entry) []api.Entry {
	l = roomy(l)
	if len(l) == 0 {
		return []api.Entry{entry(pickOf(r, "", "a", "\xff"), r.Intn(4), pickOf(r, "", ".a", ".b", "[=1]"))}
	}
	i, k := r.Intn(len(l)), r.Intn(len(l))
	x := &l[i]
	n := r.Intn(len(x.Fields))
	switch r.Intn(8) {
	case 0:
		x.Manager = pickOf(r, "", "\xff", strings.Repeat("m", 65), x.Manager+"-")
	case 1:
		x.Way = pickOf(r, 0, 1, 2, 3)
	case 2:
		l[i], l[k] = l[k], l[i]
	case 3:
		x.Fields = roomy(l[k].Fields)
	case 4, 5:
		x.Fields[n] = nearPath(r, x.Fields[n])
		if l, e := path.Sort(x.Fields); e == api.OK {
			x.Fields = l
		}
	default: // the element above others may be the one
		x.Fields = slices.Delete(x.Fields, n, n+1)
	}
	return l
}

// spoilObject changes something of an object.
func spoilObject(r *rand.Rand, o api.Object) api.Object {
	n := 1 + r.Intn(7)
	if n&1 > 0 {
		o.Entries = spoilEntries(r, o.Entries)
	}
	if n == 2 || n == 3 {
		o.Value = shake(r, o.Value)
	}
	if n == 6 || n == 7 {
		o.Value = spoil(r, o.Value)
	}
	return o
}

// room is the memory of a list, its spare room too.
type room struct{ from, to uintptr }

// rooms is the memory of all lists of a thing of package api.
func rooms(x any) []room { return roomsOf(reflect.ValueOf(x)) }

func roomsOf(v reflect.Value) []room {
	var l []room
	switch v.Kind() {
	case reflect.Slice:
		if v.Cap() > 0 {
			l = append(l, room{v.Pointer(), v.Pointer() + uintptr(v.Cap())*v.Type().Elem().Size()})
		}
		for i := range v.Len() {
			l = append(l, roomsOf(v.Index(i))...)
		}
	case reflect.Struct:
		for i := range v.NumField() {
			l = append(l, roomsOf(v.Field(i))...)
		}
	}
	return l
}

// checkApart holds rooms against each other: no two may have memory in common.
func checkApart(t *testing.T, what string, l []room) {
	t.Helper()
	sort.Slice(l, func(i, k int) bool { return l[i].from < l[k].from })
	for i := 1; i < len(l); i++ {
		if l[i].from < l[i-1].to {
			t.Fatalf("memory: %s: two lists share some", what)
		}
	}
}

// roomy is a thing of package api in memory of its own whose lists have spare room, with something in it; empty lists too.
func roomy[T any](x T) T { return roomyOf(reflect.ValueOf(x)).Interface().(T) }

func roomyOf(v reflect.Value) reflect.Value {
	to := reflect.New(v.Type()).Elem()
	switch v.Kind() {
	case reflect.Slice:
		to.Set(reflect.MakeSlice(v.Type(), v.Len()+2, v.Len()+2))
		for i := range v.Len() {
			to.Index(i).Set(roomyOf(v.Index(i)))
		}
		for i := v.Len(); i < to.Len(); i++ {
			mark(to.Index(i))
		}
		to.SetLen(v.Len())
	case reflect.Struct:
		for i := range v.NumField() {
			to.Field(i).Set(roomyOf(v.Field(i)))
		}
	default:
		to.Set(v)
	}
	return to
}

// mark writes something into all strings and numbers of a thing.
func mark(v reflect.Value) {
	switch v.Kind() {
	case reflect.String:
		v.SetString("scribble")
	case reflect.Int:
		v.SetInt(77)
	case reflect.Uint8:
		v.SetUint(77)
	case reflect.Struct:
		for i := range v.NumField() {
			mark(v.Field(i))
		}
	}
}

// whole tells a thing with the spare room of its lists as if it were part of them.
func whole(x any) string { return fmt.Sprint(wholeOf(reflect.ValueOf(x))) }

func wholeOf(v reflect.Value) any {
	l := []any{}
	switch v.Kind() {
	case reflect.Slice:
		if v.Cap() > 0 {
			l = append(l, v.Pointer())
		}
		v = v.Slice(0, v.Cap())
		for i := range v.Len() {
			l = append(l, wholeOf(v.Index(i)))
		}
		return l
	case reflect.Struct:
		for i := range v.NumField() {
			l = append(l, wholeOf(v.Field(i)))
		}
		return l
	}
	return fmt.Sprintf("%#v", v.Interface())
}

// scribble writes over all that a thing's lists hold, spare room too.
func scribble(x any) { scribbleOf(reflect.ValueOf(x)) }

func scribbleOf(v reflect.Value) {
	switch v.Kind() {
	case reflect.Slice:
		v = v.Slice(0, v.Cap())
		for i := range v.Len() {
			scribbleOf(v.Index(i))
			mark(v.Index(i))
		}
	case reflect.Struct:
		for i := range v.NumField() {
			scribbleOf(v.Field(i))
		}
	}
}
