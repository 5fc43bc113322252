package strategic_test

import (
	"fmt"
	"math"
	"math/rand"
	"reflect"
	"slices"
	"sort"
	"strings"
	"testing"

	"freehold/api"
	"freehold/json"
	"freehold/schema"
	"freehold/strategic"
	"freehold/validate"
	"freehold/value"
)

// What the tests hold the package against, written from the words of the chapter in other ways than the package's own: a patch is looked at by gathering all that is read of it and judging each by itself; it is carried out on values that are made anew at each step, where all is found by going through; and the patch between two values is put together from the keys that either has.

func num(n int) api.Value                 { return api.Value{Kind: api.Int, Int: n} }
func text(s string) api.Value             { return api.Value{Kind: api.Str, Str: s} }
func truth(b bool) api.Value              { return api.Value{Kind: api.Bool, Bool: b} }
func list(l ...api.Value) api.Value       { return api.Value{Kind: api.List, List: l} }
func object(l ...api.Member) api.Value    { return api.Value{Kind: api.Map, Map: l} }
func at(k string, v api.Value) api.Member { return api.Member{Key: k, Val: v} }

func fields(l ...string) []api.Field {
	var to []api.Field
	for i := 0; i < len(l); i += 2 {
		to = append(to, api.Field{Name: l[i], Type: l[i+1]})
	}
	return to
}

var null = api.Value{}

// read is the value of a text.
func read(s string) api.Value {
	v, _, e := json.Parse([]byte(s), api.DeepRecord)
	if e != api.OK {
		panic(s)
	}
	return v
}

// show is a value as a test tells it.
func show(v api.Value) string {
	b, e := json.Print(v, api.DeepRecord)
	if e != api.OK || len(b) > 4000 {
		return fmt.Sprintf("a value of the kind %d (%d)", v.Kind, e)
	}
	return string(b)
}

// tell is a schema as a test tells it.
func tell(s api.Schema) string {
	v, e := schema.Print(s)
	if e != api.OK {
		return fmt.Sprintf("%+v", s)
	}
	return show(v)
}

// same tells whether two things of package api are the same, where nil and empty lists are.
func same(a, b any) bool { return sameOf(reflect.ValueOf(a), reflect.ValueOf(b)) }

func sameOf(a, b reflect.Value) bool {
	switch a.Kind() {
	case reflect.Slice:
		if a.Len() != b.Len() {
			return false
		}
		for i := range a.Len() {
			if !sameOf(a.Index(i), b.Index(i)) {
				return false
			}
		}
		return true
	case reflect.Struct:
		for i := range a.NumField() {
			if !sameOf(a.Field(i), b.Field(i)) {
				return false
			}
		}
		return true
	}
	return a.Equal(b)
}

// follow is what a name of a schema that may be means.
func follow(s api.Schema, name string) api.Type {
	if k := slices.Index([]string{"", "bool", "int", "string"}, name); k > 0 {
		return api.Type{Name: name, Kind: k}
	}
	for _, t := range s.Types {
		if t.Name == name && t.Kind == api.TypeName {
			return follow(s, t.Elem)
		}
		if t.Name == name {
			return t
		}
	}
	panic(name)
}

// isLeaf is the page's: a scalar, or something atomic.
func isLeaf(t api.Type) bool { return t.Kind <= 3 || t.Atomic || t.Kind == 6 && t.Rel == api.Whole }

// holds tells whether a type is a struct or a map that is no leaf.
func holds(t api.Type) bool {
	return !isLeaf(t) && (t.Kind == api.TypeStruct || t.Kind == api.TypeMap)
}

// typeOfMember is the name of the type of a member; the empty one, if the struct has no such field.
func typeOfMember(t api.Type, key string) string {
	for _, f := range t.Fields {
		if f.Name == key {
			return f.Type
		}
	}
	return t.Elem
}

// keyOf is a member; null, if it is not there.
func keyOf(v api.Value, key string) api.Value {
	x, _ := memberOf(v, key)
	return x
}

func memberOf(v api.Value, key string) (api.Value, bool) {
	for _, m := range v.Map {
		if m.Key == key {
			return m.Val, true
		}
	}
	return null, false
}

// with is a map with a member set, without is one with none of that key.
func with(v api.Value, key string, x api.Value) api.Value {
	l := append(without(v, key).Map, at(key, x))
	sort.Slice(l, func(i, k int) bool { return l[i].Key < l[k].Key })
	return object(l...)
}

func without(v api.Value, key string) api.Value {
	return object(slices.DeleteFunc(slices.Clone(v.Map), func(m api.Member) bool { return m.Key == key })...)
}

func isScalar(v api.Value) bool { return v.Kind == api.Bool || v.Kind == api.Int || v.Kind == api.Str }

// unreachable are the keys that no patch can reach.
func unreachable(key string) bool { return key == "$patch" || strings.Index(key, "$delete/") == 0 }

// hasKeys tells whether a value is a map that has all key fields, with scalars.
func hasKeys(t api.Type, x api.Value) bool {
	for _, k := range t.Keys {
		if !isScalar(keyOf(x, k)) {
			return false
		}
	}
	return x.Kind == api.Map
}

// isOrder tells whether an element of a list is the list's directive.
func isOrder(t api.Type, x api.Value) bool {
	_, there := memberOf(x, "$patch")
	return there && (t.Rel == api.Set || !hasKeys(t, x))
}

// listed tells whether a value is a list that is read for a set or a keyed list, and parts it.
func listed(t api.Type, p api.Value) (others, orders []api.Value, ok bool) {
	if p.Kind != api.List || t.Kind != api.TypeList || t.Rel == api.Whole {
		return nil, nil, false
	}
	for _, x := range p.List {
		switch {
		case isOrder(t, x):
			orders = append(orders, x)
		case t.Rel == api.Keyed && !hasKeys(t, x):
			return nil, nil, false
		default:
			others = append(others, x)
		}
	}
	return others, orders, true
}

// reading is a map or a list of a patch that is read: what it patches; the key fields, if that is an element of a keyed list.
type reading struct {
	t    api.Type
	p    api.Value
	keys []string
}

// readings gathers all that is read of a patch.
func readings(s api.Schema, typ string, p api.Value, keys []string) []reading {
	t := follow(s, typ)
	l := []reading{{t, p, keys}}
	if others, _, ok := listed(t, p); ok {
		for _, x := range others {
			if t.Rel == api.Keyed {
				l = append(l, readings(s, t.Elem, x, t.Keys)...)
			}
		}
		return l
	}
	if !holds(t) || p.Kind != api.Map {
		return nil
	}
	for _, m := range p.Map {
		if of := typeOfMember(t, m.Key); of != "" && m.Val.Kind != api.Null && !unreachable(m.Key) {
			l = append(l, readings(s, of, m.Val, nil)...)
		}
	}
	return l
}

// wrong tells whether a directive of what was read may not be.
func (x reading) wrong(s api.Schema) bool {
	if _, orders, ok := listed(x.t, x.p); ok {
		return len(orders) > 1 || len(orders) == 1 && show(orders[0]) != `{"$patch":"replace"}`
	}
	for _, m := range x.p.Map {
		name, cut := strings.CutPrefix(m.Key, "$delete/")
		if cut && (unreachable(name) || !x.isSet(s, name) || m.Val.Kind != api.List) {
			return true
		}
		for _, y := range m.Val.List {
			if cut && !isScalar(y) {
				return true
			}
		}
	}
	order, there := memberOf(x.p, "$patch")
	left := without(x.p, "$patch")
	for _, k := range x.keys {
		left = without(left, k)
	}
	return there && !slices.Contains([]string{`"merge"`, `"replace"`, `"delete"`}, show(order)) || show(order) == `"delete"` && len(left.Map) > 0
}

func (x reading) isSet(s api.Schema, name string) bool {
	of := typeOfMember(x.t, name)
	return of != "" && follow(s, of).Rel == api.Set
}

// refused is the error of a schema and a type.
func refused(s api.Schema, typ string) api.Errno {
	if e := schema.Check(s); e != api.OK {
		return e
	}
	_, e := schema.Means(s, typ)
	return e
}

func wantCheck(s api.Schema, typ string, p api.Value) api.Errno {
	if e := refused(s, typ); e != api.OK {
		return e
	}
	if e := value.Check(p, 32); e != api.OK {
		return e
	}
	if slices.ContainsFunc(readings(s, typ, p, nil), func(x reading) bool { return x.wrong(s) }) {
		return api.ErrDirective
	}
	return api.OK
}

// outcome is a value, or nothing.
type outcome struct {
	v     api.Value
	there bool
}

func some(v api.Value) outcome { return outcome{v, true} }

// result is what the chapter's rules say.
func result(s api.Schema, typ string, was outcome, p api.Value) outcome {
	t := follow(s, typ)
	if holds(t) && p.Kind == api.Map {
		return ofMembers(s, t, was, p)
	}
	others, orders, ok := listed(t, p)
	switch {
	case !ok:
		return some(p)
	case t.Rel == api.Set && len(orders) > 0:
		return some(list(others...))
	case t.Rel == api.Set:
		return some(list(ofItems(was.v.List, others)...))
	case len(orders) > 0:
		var l []api.Value
		for _, x := range others {
			if y := result(s, t.Elem, outcome{}, x); y.there {
				l = append(l, y.v)
			}
		}
		return some(list(l...))
	}
	l := slices.Clone(was.v.List)
	for _, x := range others {
		l = ofElement(s, t, l, x)
	}
	return some(list(l...))
}

func ofMembers(s api.Schema, t api.Type, was outcome, p api.Value) outcome {
	v := object(was.v.Map...)
	switch show(keyOf(p, "$patch")) {
	case `"delete"`:
		return outcome{}
	case `"replace"`:
		plain := object(slices.DeleteFunc(slices.Clone(p.Map), func(m api.Member) bool { return unreachable(m.Key) })...)
		return ofMembers(s, t, outcome{}, plain)
	}
	for _, m := range p.Map {
		of, old := typeOfMember(t, m.Key), outcome{}
		old.v, old.there = memberOf(v, m.Key)
		switch {
		case unreachable(m.Key):
		case m.Val.Kind == api.Null:
			v = without(v, m.Key)
		case of == "":
			v = with(v, m.Key, m.Val)
		default:
			if x := result(s, of, old, m.Val); x.there {
				v = with(v, m.Key, x.v)
			} else {
				v = without(v, m.Key)
			}
		}
	}
	for _, m := range p.Map {
		if name, cut := strings.CutPrefix(m.Key, "$delete/"); cut && keyOf(v, name).Kind == api.List {
			v = with(v, name, list(slices.DeleteFunc(slices.Clone(keyOf(v, name).List), func(x api.Value) bool { return has(m.Val.List, x) })...))
		}
	}
	return some(v)
}

func has(l []api.Value, x api.Value) bool {
	return slices.ContainsFunc(l, func(y api.Value) bool { return same(x, y) })
}

func ofItems(l, more []api.Value) []api.Value {
	l = slices.Clone(l)
	for _, x := range more {
		if !has(l, x) {
			l = append(l, x)
		}
	}
	return l
}

// ofElement is elements behind one of a patch.
func ofElement(s api.Schema, t api.Type, l []api.Value, x api.Value) []api.Value {
	i, was := slices.IndexFunc(l, func(y api.Value) bool { return hasKeys(t, y) && sameKeys(t, x, y) }), outcome{}
	if i >= 0 {
		was = some(l[i])
	}
	y := result(s, t.Elem, was, x)
	switch {
	case i < 0 && y.there:
		return append(slices.Clone(l), y.v)
	case i < 0:
		return l
	case y.there:
		return slices.Concat(l[:i], []api.Value{y.v}, l[i+1:])
	}
	return slices.Concat(l[:i], l[i+1:])
}

func sameKeys(t api.Type, x, y api.Value) bool {
	return !slices.ContainsFunc(t.Keys, func(k string) bool { return !same(keyOf(x, k), keyOf(y, k)) })
}

// refusedValue is the error of a value that must be normal.
func refusedValue(s api.Schema, typ string, v api.Value) api.Errno {
	if _, e := validate.Check(s, typ, v); e != api.OK {
		return e
	}
	if !validate.IsNormal(s, typ, v) {
		return api.ErrLeaf
	}
	return api.OK
}

func wantApply(s api.Schema, typ string, v, p api.Value) (api.Value, api.Errno) {
	for _, e := range []api.Errno{refused(s, typ), refusedValue(s, typ, v), wantCheck(s, typ, p)} {
		if e != api.OK {
			return null, e
		}
	}
	x := result(s, typ, some(v), p).v
	if e := value.Check(x, 32); e != api.OK {
		return null, e
	}
	return x, api.OK
}

// patchOf is the patch from a to b; false, if something is out of reach.
func patchOf(s api.Schema, typ string, a, b api.Value) (api.Value, bool) {
	t := follow(s, typ)
	switch {
	case isLeaf(t):
		return b, true
	case t.Rel == api.Set:
		goes, comes := minus(a.List, b.List), minus(b.List, a.List)
		if len(goes) > 0 {
			return list(append([]api.Value{read(`{"$patch":"replace"}`)}, b.List...)...), true
		}
		return list(comes...), true
	case t.Rel == api.Keyed:
		return patchOfElements(s, t, a, b)
	}
	p, ok, seen := object(), true, map[string]int{}
	for _, m := range slices.Concat(a.Map, b.Map) {
		x, was := memberOf(a, m.Key)
		y, is := memberOf(b, m.Key)
		of := typeOfMember(t, m.Key)
		if seen[m.Key]++; seen[m.Key] > 1 || was && is && same(x, y) {
			continue
		}
		ok = ok && !unreachable(m.Key)
		switch {
		case !is:
			p = with(p, m.Key, null)
		case !was:
			p, ok = with(p, m.Key, y), ok && reachable(s, of, y)
		case follow(s, of).Rel == api.Set:
			if goes := minus(x.List, y.List); len(goes) > 0 {
				p = with(p, "$delete/"+m.Key, list(goes...))
			}
			if comes := minus(y.List, x.List); len(comes) > 0 {
				p = with(p, m.Key, list(comes...))
			}
		default:
			q, fine := patchOf(s, of, x, y)
			p, ok = with(p, m.Key, q), ok && fine
		}
	}
	return p, ok
}

func minus(l, m []api.Value) []api.Value {
	return slices.DeleteFunc(slices.Clone(l), func(x api.Value) bool { return has(m, x) })
}

func patchOfElements(s api.Schema, t api.Type, a, b api.Value) (api.Value, bool) {
	p, ok := list(), !slices.ContainsFunc(t.Keys, unreachable) || same(a, b)
	head := func(x api.Value, p api.Value) api.Value {
		for _, k := range t.Keys {
			p = with(p, k, keyOf(x, k))
		}
		return p
	}
	for _, x := range a.List {
		i := slices.IndexFunc(b.List, func(y api.Value) bool { return sameKeys(t, x, y) })
		switch {
		case i < 0:
			p.List = append(p.List, head(x, read(`{"$patch":"delete"}`)))
		case !same(x, b.List[i]):
			q, fine := patchOf(s, t.Elem, x, b.List[i])
			p.List, ok = append(p.List, head(x, q)), ok && fine
		}
	}
	for _, y := range b.List {
		if !slices.ContainsFunc(a.List, func(x api.Value) bool { return sameKeys(t, x, y) }) {
			p.List, ok = append(p.List, y), ok && reachable(s, t.Elem, y)
		}
	}
	sort.SliceStable(p.List, func(i, k int) bool {
		for _, key := range t.Keys {
			if c := value.Compare(keyOf(p.List[i], key), keyOf(p.List[k], key)); c != 0 {
				return c < 0
			}
		}
		return false
	})
	return p, ok
}

// reachable tells whether no part of a whole stands at a key that no patch can reach.
func reachable(s api.Schema, typ string, v api.Value) bool {
	t := follow(s, typ)
	if isLeaf(t) || t.Rel == api.Set {
		return true
	}
	return !slices.ContainsFunc(v.Map, func(m api.Member) bool {
		return unreachable(m.Key) || !reachable(s, typeOfMember(t, m.Key), m.Val)
	}) && !slices.ContainsFunc(v.List, func(x api.Value) bool { return !reachable(s, t.Elem, x) })
}

func wantDiff(s api.Schema, typ string, a, b api.Value) (api.Value, api.Errno) {
	for _, e := range []api.Errno{refused(s, typ), refusedValue(s, typ, a), refusedValue(s, typ, b)} {
		if e != api.OK {
			return null, e
		}
	}
	p, ok := patchOf(s, typ, a, b)
	if !ok {
		return null, api.ErrDirective
	}
	if e := value.Check(p, 32); e != api.OK {
		return null, e
	}
	return p, api.OK
}

// checkApply holds Check and Apply against the second reading.
func checkApply(t *testing.T, s api.Schema, typ string, v, p api.Value) (api.Value, api.Errno) {
	t.Helper()
	if e, want := strategic.Check(s, typ, p), wantCheck(s, typ, p); e != want {
		t.Fatalf("P18.1: Check of %s for %s = %d, want %d; schema %s", show(p), typ, e, want, tell(s))
	}
	got, e := strategic.Apply(s, typ, v, p)
	if want, f := wantApply(s, typ, v, p); e != f || !same(got, want) {
		t.Fatalf("P18.2: %s by %s for %s = %s, %d, want %s, %d; schema %s", show(v), show(p), typ, show(got), e, show(want), f, tell(s))
	}
	return got, e
}

// checkDiff holds Diff against the second reading.
func checkDiff(t *testing.T, s api.Schema, typ string, a, b api.Value) (api.Value, api.Errno) {
	t.Helper()
	got, e := strategic.Diff(s, typ, a, b)
	if want, f := wantDiff(s, typ, a, b); e != f || !same(got, want) {
		t.Fatalf("P18.3: from %s to %s of %s = %s, %d, want %s, %d; schema %s", show(a), show(b), typ, show(got), e, show(want), f, tell(s))
	}
	return got, e
}

// pickOf is one of some things.
func pickOf[T any](r *rand.Rand, l ...T) T { return l[r.Intn(len(l))] }

// pickSchema makes schemas that may be, with types of every sort; odd ones have fields, and key fields, that no patch can reach.
func pickSchema(r *rand.Rand, odd bool) api.Schema {
	scalars := []string{"bool", "int", "string", "c0", "c1", "c2", "d"}
	all := append(slices.Clone(scalars), "e0", "e1", "f", "k0", "k1", "k0", "k1", "m0", "m1", "s0", "s1", "s0", "s1", "t0", "t1", "w0", "w1", "z")
	any := func() string { return pickOf(r, all...) }
	keyed := func(n string) api.Type {
		keys := pickOf(r, []string{"a"}, []string{"b"}, []string{"a", "b"})
		if odd && r.Intn(3) == 0 {
			keys = pickOf(r, []string{"$patch"}, []string{"$patch", "a"}, []string{"$delete/a"}, []string{"$delete/a", "b"})
		}
		return api.Type{Name: n, Kind: api.TypeList, Rel: api.Keyed, Elem: pickOf(r, "e0", "e1", "f"), Keys: keys}
	}
	set := func(n string) api.Type {
		return api.Type{Name: n, Kind: api.TypeList, Rel: api.Set, Elem: pickOf(r, scalars...)}
	}
	of := func(n string, atomic bool, a, b string) api.Type {
		t := api.Type{Name: n, Kind: api.TypeStruct, Atomic: atomic, Fields: fields("a", a, "b", b, "c", any(), "c/~", any(), "\u00e9", any())}
		if odd {
			t.Fields = append(fields("$delete/a", pickOf(r, scalars...), "$patch", pickOf(r, "string", "words")), t.Fields...)
		}
		return t
	}
	return api.Schema{Types: []api.Type{
		{Name: "c0", Kind: api.TypeInt, Enum: []api.Value{num(-3), num(0), num(7)}},
		{Name: "c1", Kind: api.TypeStr, Enum: []api.Value{text(""), text("b"), text("bb")}},
		{Name: "c2", Kind: api.TypeBool, Enum: []api.Value{truth(true)}},
		{Name: "d", Kind: api.TypeName, Elem: pickOf(r, "c0", "c1", "int")},
		of("e0", false, pickOf(r, scalars...), pickOf(r, scalars...)),
		of("e1", false, pickOf(r, scalars...), pickOf(r, scalars...)),
		{Name: "f", Kind: api.TypeName, Elem: "e1"},
		keyed("k0"), keyed("k1"),
		{Name: "m0", Kind: api.TypeMap, Elem: any()},
		{Name: "m1", Kind: api.TypeMap, Atomic: true, Elem: any()},
		set("s0"), set("s1"),
		of("t0", false, any(), any()), of("t1", true, any(), any()),
		{Name: "w0", Kind: api.TypeList, Elem: any()}, {Name: "w1", Kind: api.TypeList, Elem: "k0"},
		{Name: "words", Kind: api.TypeStr, Enum: []api.Value{text("delete"), text("merge"), text("replace")}},
		{Name: "z", Kind: api.TypeName, Elem: pickOf(r, "k0", "k1", "m0", "m1", "s0", "t0", "t1", "w0")},
	}, Roots: []api.Root{{Kind: "app", Type: "t0"}, {Kind: "job", Type: "m0"}, {Kind: "web", Type: "f"}}}
}

// names is the types that a schema's values are asked for; most of those are no leaves.
func names(s api.Schema) []string {
	l := []string{"int", "string"}
	for _, t := range s.Types {
		l = append(l, t.Name)
		if !isLeaf(follow(s, t.Name)) {
			l = append(l, t.Name, t.Name, t.Name, t.Name)
		}
	}
	return l
}

func pickScalar(r *rand.Rand, t api.Type) api.Value {
	if len(t.Enum) > 0 {
		return pickOf(r, t.Enum...)
	}
	switch t.Kind {
	case api.TypeBool:
		return truth(r.Intn(2) == 0)
	case api.TypeInt:
		return pickOf(r, num(-3), num(0), num(1), num(7), num(math.MinInt64))
	}
	return pickOf(r, text(""), text("a"), text("b"), text("\u00e9"), text("1"), text("merge"), text("delete"))
}

// keys of maps and structs.
func keys() []string {
	return []string{"", "$delete/a", "$patch", "$x", "a", "b", "c", "c/~", "\u00e9"}
}

// seldom tells whether a key is one that a picked value has seldom.
func seldom(r *rand.Rand, t api.Type, key string) bool {
	return t.Kind == api.TypeMap && unreachable(key) && r.Intn(4) > 0
}

// pickValue makes valid values of a type.
func pickValue(r *rand.Rand, s api.Schema, typ string, depth int) api.Value {
	t := follow(s, typ)
	if t.Kind <= api.TypeStr {
		return pickScalar(r, t)
	}
	v := api.Value{Kind: api.Map}
	if t.Kind == api.TypeList {
		v.Kind = api.List
	}
	if depth <= 0 || r.Intn(12) == 0 {
		return v
	}
	if v.Kind == api.List {
		for range r.Intn(5) {
			x := pickValue(r, s, t.Elem, depth-1)
			for _, k := range t.Keys {
				x = with(x, k, pickScalar(r, follow(s, typeOfMember(follow(s, t.Elem), k))))
			}
			more := append(slices.Clone(v.List), x)
			if _, e := validate.Check(s, typ, list(more...)); e == api.OK {
				v.List = more
			}
		}
		return v
	}
	for _, k := range keys() {
		if of := typeOfMember(t, k); of != "" && r.Intn(2) == 0 && !seldom(r, t, k) {
			x := pickValue(r, s, of, depth-1)
			if r.Intn(6) == 0 {
				x = null
			}
			v.Map = append(v.Map, at(k, x))
		}
	}
	return v
}

// pickNormal is a type and a normal value of it, seldom one of few parts.
func pickNormal(r *rand.Rand, s api.Schema) (typ string, v api.Value) {
	for range 4 {
		typ = pickOf(r, names(s)...)
		n, e := validate.Normal(s, typ, pickValue(r, s, typ, 4))
		if e != api.OK {
			panic(e)
		}
		if v = n; value.Nodes(v) > 6 {
			break
		}
	}
	return typ, v
}

// vary is a normal value that has much in common with another one.
func vary(r *rand.Rand, s api.Schema, typ string, v api.Value) api.Value {
	n, e := validate.Normal(s, typ, varied(r, s, typ, v, 3))
	if e != api.OK {
		return v
	}
	return n
}

func varied(r *rand.Rand, s api.Schema, typ string, v api.Value, depth int) api.Value {
	t := follow(s, typ)
	if v.Kind == api.Null || r.Intn(8) == 0 || isLeaf(t) && r.Intn(3) == 0 {
		return pickValue(r, s, typ, depth)
	}
	if isLeaf(t) {
		return v
	}
	to, more := api.Value{Kind: v.Kind}, pickValue(r, s, typ, depth)
	for _, x := range v.List {
		if t.Rel == api.Keyed && r.Intn(2) == 0 {
			y := varied(r, s, t.Elem, x, depth-1)
			for _, k := range t.Keys { // it stays the element, most of the times
				if r.Intn(6) > 0 {
					y = with(y, k, keyOf(x, k))
				}
			}
			x = y
		}
		if r.Intn(5) > 0 {
			to.List = append(to.List, x)
		}
	}
	to.List = append(to.List, more.List[:r.Intn(len(more.List)+1)]...)
	for _, m := range v.Map {
		if x := m.Val; r.Intn(5) > 0 {
			if r.Intn(3) > 0 {
				x = varied(r, s, typeOfMember(t, m.Key), x, depth-1)
			}
			to.Map = append(to.Map, at(m.Key, x))
		}
	}
	for _, m := range more.Map {
		if _, there := memberOf(to, m.Key); !there && r.Intn(3) == 0 && !unreachable(m.Key) {
			to = with(to, m.Key, m.Val)
		}
	}
	if _, e := validate.Check(s, typ, to); e != api.OK {
		return v
	}
	return to
}

// junk is a value of no type.
func junk(r *rand.Rand) api.Value {
	return pickOf(r, null, truth(true), num(5), text("q"), list(), object(), list(null), list(num(1), list(num(1))), object(at("a", num(5))), object(at("$patch", text("wipe"))), list(object(at("$patch", text("replace")))), list(object(at("$patch", text("merge")), at("a", num(0)))))
}

// pickPatch makes patches for a type; of those that wrongs are put into some are none.
func pickPatch(r *rand.Rand, s api.Schema, typ string, depth, wrongs int) api.Value {
	t := follow(s, typ)
	switch {
	case r.Intn(25) == 0:
		return junk(r)
	case isLeaf(t), depth <= 0:
		return pickValue(r, s, typ, depth)
	case t.Kind == api.TypeList:
		return pickList(r, s, t, depth, wrongs)
	}
	p := object()
	if r.Intn(5) == 0 {
		p = with(p, "$patch", text(pickOf(r, "merge", "merge", "replace", "delete")))
	}
	if keyOf(p, "$patch").Str == "delete" && r.Intn(40) >= wrongs {
		return p
	}
	for _, k := range append(keys(), "other") {
		of := typeOfMember(t, k)
		switch n := r.Intn(12); {
		case unreachable(k) || n > 6 || of == "" && n > 0:
		case of == "":
			p = with(p, k, junk(r))
		case n == 0:
			p = with(p, k, null)
		default:
			p = with(p, k, pickPatch(r, s, of, depth-1, wrongs))
		}
		if of != "" && follow(s, of).Rel == api.Set && r.Intn(2) == 0 {
			p = with(p, "$delete/"+k, list(pickItems(r, s, follow(s, of))...))
		}
	}
	if r.Intn(120) < wrongs {
		p = with(p, pickOf(r, "$patch", "$patch", "$delete/a", "$delete/", "$delete/$patch", "$delete/other"), junk(r))
	}
	return p
}

// pickItems is scalars, most of them of a set's type.
func pickItems(r *rand.Rand, s api.Schema, t api.Type) []api.Value {
	var l []api.Value
	for range r.Intn(4) {
		l = append(l, pickScalar(r, follow(s, pickOf(r, t.Elem, t.Elem, t.Elem, t.Elem, "int"))))
	}
	return l
}

// pickList makes patches for a set or a keyed list.
func pickList(r *rand.Rand, s api.Schema, t api.Type, depth, wrongs int) api.Value {
	p := list()
	if t.Rel == api.Set {
		p.List = pickItems(r, s, t)
	}
	for range r.Intn(5) {
		if t.Rel == api.Keyed {
			p.List = append(p.List, pickElement(r, s, t, depth, wrongs))
		}
	}
	if r.Intn(15) == 0 {
		p.List = append(p.List, junk(r))
	}
	for r.Intn(6) == 0 {
		p.List = slices.Insert(p.List, r.Intn(len(p.List)+1), read(`{"$patch":"replace"}`))
		if r.Intn(40) >= wrongs {
			break
		}
	}
	if r.Intn(60) < wrongs {
		p.List = append(p.List, pickOf(r, read(`{"$patch":"merge"}`), read(`{"$patch":"replace","x":1}`), read(`{"$patch":null}`)))
	}
	return p
}

// pickElement is an element of a patch for a keyed list.
func pickElement(r *rand.Rand, s api.Schema, t api.Type, depth, wrongs int) api.Value {
	x := pickPatch(r, s, t.Elem, depth-1, wrongs)
	if x.Kind != api.Map {
		x = object()
	}
	if r.Intn(5) == 0 {
		x = with(object(), "$patch", text("delete"))
	}
	for _, k := range t.Keys {
		if id := pickScalar(r, follow(s, typeOfMember(follow(s, t.Elem), k))); k != "$patch" {
			x = with(x, k, id)
		} else {
			x = with(x, k, text(pickOf(r, "merge", "replace", "delete")))
		}
		if r.Intn(50) == 0 {
			x = without(x, k)
		}
		if r.Intn(50) == 0 {
			x = with(x, k, pickOf(r, text("zz"), num(99), list(num(1)), null))
		}
	}
	return x
}

// spoil is a value of which something is another one; most of the times it is not valid.
func spoil(r *rand.Rand, v api.Value) api.Value {
	n := len(v.List) + len(v.Map)
	if n == 0 || r.Intn(3) == 0 {
		return pickOf(r, junk(r), list(v, v), object(at("q", v)), api.Value{Kind: 9}, api.Value{Kind: api.Int, Str: "a"})
	}
	v = roomy(v)
	if i := r.Intn(n); i < len(v.List) {
		v.List[i] = spoil(r, v.List[i])
	} else {
		v.Map[i].Val = spoil(r, v.Map[i].Val)
	}
	return v
}

// shake is a value in which lists are in another order, or nulls and empty things are put in; many of them are valid, but not normal.
func shake(r *rand.Rand, v api.Value) api.Value {
	v = roomy(v)
	for i := range v.Map {
		v.Map[i].Val = shake(r, v.Map[i].Val)
	}
	if v.Kind == api.List {
		r.Shuffle(len(v.List), func(i, k int) { v.List[i], v.List[k] = v.List[k], v.List[i] })
	}
	if v.Kind == api.Map && r.Intn(3) == 0 {
		v = with(v, pickOf(r, "a", "b", "c", "c/~", "\u00e9"), pickOf(r, null, list(), object()))
	}
	return v
}

// room is the memory of a list, its spare room too.
type room struct{ from, to uintptr }

// rooms is the memory of all lists of a thing of package api.
func rooms(x any) []room { return roomsOf(reflect.ValueOf(x)) }

func roomsOf(v reflect.Value) []room {
	var l []room
	switch v.Kind() {
	case reflect.Slice:
		if v.Cap() > 0 {
			l = append(l, room{v.Pointer(), v.Pointer() + uintptr(v.Cap())*v.Type().Elem().Size()})
		}
		for i := range v.Len() {
			l = append(l, roomsOf(v.Index(i))...)
		}
	case reflect.Struct:
		for i := range v.NumField() {
			l = append(l, roomsOf(v.Field(i))...)
		}
	}
	return l
}

// checkApart holds rooms against each other: no two may have memory in common.
func checkApart(t *testing.T, what string, l []room) {
	t.Helper()
	sort.Slice(l, func(i, k int) bool { return l[i].from < l[k].from })
	for i := 1; i < len(l); i++ {
		if l[i].from < l[i-1].to {
			t.Fatalf("P18.7: %s: two lists share some", what)
		}
	}
}

// roomy is a thing of package api in memory of its own whose lists have spare room, with something in it; empty lists too.
func roomy[T any](x T) T { return roomyOf(reflect.ValueOf(x)).Interface().(T) }

func roomyOf(v reflect.Value) reflect.Value {
	to := reflect.New(v.Type()).Elem()
	switch v.Kind() {
	case reflect.Slice:
		to.Set(reflect.MakeSlice(v.Type(), v.Len()+2, v.Len()+2))
		for i := range v.Len() {
			to.Index(i).Set(roomyOf(v.Index(i)))
		}
		for i := v.Len(); i < to.Len(); i++ {
			mark(to.Index(i))
		}
		to.SetLen(v.Len())
	case reflect.Struct:
		for i := range v.NumField() {
			to.Field(i).Set(roomyOf(v.Field(i)))
		}
	default:
		to.Set(v)
	}
	return to
}

// mark writes something into all strings and numbers of a thing.
func mark(v reflect.Value) {
	switch v.Kind() {
	case reflect.String:
		v.SetString("scribble")
	case reflect.Int:
		v.SetInt(77)
	case reflect.Struct:
		for i := range v.NumField() {
			mark(v.Field(i))
		}
	}
}

// whole tells a thing with the spare room of its lists as if it were part of them.
func whole(x any) string { return fmt.Sprint(wholeOf(reflect.ValueOf(x))) }

func wholeOf(v reflect.Value) any {
	l := []any{}
	switch v.Kind() {
	case reflect.Slice:
		if v.Cap() > 0 {
			l = append(l, v.Pointer())
		}
		v = v.Slice(0, v.Cap())
		for i := range v.Len() {
			l = append(l, wholeOf(v.Index(i)))
		}
		return l
	case reflect.Struct:
		for i := range v.NumField() {
			l = append(l, wholeOf(v.Field(i)))
		}
		return l
	}
	return fmt.Sprintf("%#v", v.Interface())
}

// scribble writes over all that a thing's lists hold, spare room too.
func scribble(x any) { scribbleOf(reflect.ValueOf(x)) }

func scribbleOf(v reflect.Value) {
	switch v.Kind() {
	case reflect.Slice:
		v = v.Slice(0, v.Cap())
		for i := range v.Len() {
			scribbleOf(v.Index(i))
			mark(v.Index(i))
		}
	case reflect.Struct:
		for i := range v.NumField() {
			scribbleOf(v.Field(i))
		}
	}
}
