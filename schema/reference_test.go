package schema

import (
	stdjson "encoding/json"
	"fmt"
	"math/rand"
	"reflect"
	"regexp"
	"slices"
	"sort"
	"strings"
	"testing"
	"unicode/utf8"

	"freehold/api"
	"freehold/json"
	"freehold/value"
)

// What the tests hold the package against, written from the words of the chapter in other ways than the package's own: Check gathers all faults and takes the one that is asked for first, a name is followed with a list of those that were met, a value is read by the set of its keys, and written by the standard library.

func num(n int) api.Value                 { return api.Value{Kind: api.Int, Int: n} }
func text(s string) api.Value             { return api.Value{Kind: api.Str, Str: s} }
func truth(b bool) api.Value              { return api.Value{Kind: api.Bool, Bool: b} }
func list(l ...api.Value) api.Value       { return api.Value{Kind: api.List, List: l} }
func object(l ...api.Member) api.Value    { return api.Value{Kind: api.Map, Map: l} }
func at(k string, v api.Value) api.Member { return api.Member{Key: k, Val: v} }

func field(n string) api.Elem        { return api.Elem{Kind: api.ElemField, Name: n} }
func key(l ...api.Member) api.Elem   { return api.Elem{Kind: api.ElemKey, Key: l} }
func item(v api.Value) api.Elem      { return api.Elem{Kind: api.ElemItem, Item: v} }
func name(n, of string) api.Type     { return api.Type{Name: n, Kind: api.TypeName, Elem: of} }
func types(l ...api.Type) api.Schema { return api.Schema{Types: l} }
func fields(l ...string) []api.Field {
	var to []api.Field
	for i := 0; i < len(l); i += 2 {
		to = append(to, api.Field{Name: l[i], Type: l[i+1]})
	}
	return to
}

var (
	null = api.Value{}
	bad  = api.Value{Kind: 9}
)

// read is the value of a text.
func read(s string) api.Value {
	v, _, e := json.Parse([]byte(s), api.DeepRecord)
	if e != api.OK {
		panic(s)
	}
	return v
}

// show is a value as a test tells it.
func show(v api.Value) string {
	b, e := json.Print(v, api.DeepRecord)
	if e != api.OK || len(b) > 600 {
		return fmt.Sprintf("a value of the kind %d (%d)", v.Kind, e)
	}
	return string(b)
}

// same tells whether two things of package api are the same, where nil and empty lists are.
func same(a, b any) bool { return sameOf(reflect.ValueOf(a), reflect.ValueOf(b)) }

func sameOf(a, b reflect.Value) bool {
	switch a.Kind() {
	case reflect.Slice:
		if a.Len() != b.Len() {
			return false
		}
		for i := range a.Len() {
			if !sameOf(a.Index(i), b.Index(i)) {
				return false
			}
		}
		return true
	case reflect.Struct:
		for i := range a.NumField() {
			if !sameOf(a.Field(i), b.Field(i)) {
				return false
			}
		}
		return true
	}
	return a.Equal(b)
}

// fault is one thing that is wrong with a schema: in which of the chapter's five parts, at which type or kind, as the how manieth question.
type fault struct {
	part, at, question int
	e                  api.Errno
}

var (
	nameForm = regexp.MustCompile(`^[A-Za-z][-_A-Za-z0-9]*$`)
	words    = map[string]int{"bool": api.TypeBool, "int": api.TypeInt, "string": api.TypeStr}
)

func nameOK(s string) bool { return nameForm.MatchString(s) && len(s) <= 64 }

// stands is the type that a name stands for, or nil.
func stands(s api.Schema, n string) *api.Type {
	if k, ok := words[n]; ok {
		return &api.Type{Name: n, Kind: k}
	}
	var found *api.Type
	for i := len(s.Types) - 1; i >= 0; i-- {
		if s.Types[i].Name == n {
			found = &s.Types[i]
		}
	}
	return found
}

// follow is what a name means, those that were met ahead of it being met.
func follow(s api.Schema, n string, met []string) (*api.Type, api.Errno) {
	t := stands(s, n)
	switch {
	case t == nil:
		return nil, api.ErrSchemaRef
	case slices.Contains(met, n):
		return nil, api.ErrSchemaLoop
	case t.Kind == api.TypeName:
		return follow(s, t.Elem, append(met, n))
	}
	return t, api.OK
}

func meansKind(s api.Schema, n string, kinds ...int) bool {
	t, _ := follow(s, n, nil)
	return t != nil && slices.Contains(kinds, t.Kind)
}

func meansScalar(s api.Schema, n string) bool { return meansKind(s, n, 1, 2, 3) }

// kept is a type with what its kind uses, and nothing else.
func kept(t api.Type) api.Type {
	k := api.Type{Name: t.Name, Kind: t.Kind}
	switch t.Kind {
	case api.TypeBool, api.TypeInt, api.TypeStr:
		k.Enum = t.Enum
	case api.TypeStruct:
		k.Atomic, k.Fields = t.Atomic, t.Fields
	case api.TypeMap:
		k.Atomic, k.Elem = t.Atomic, t.Elem
	case api.TypeList:
		k.Elem, k.Rel = t.Elem, t.Rel
		if t.Rel == api.Keyed {
			k.Keys = t.Keys
		}
	case api.TypeName:
		k.Elem = t.Elem
	}
	return k
}

func risesBy[T any](l []T, less func(a, b T) bool) bool {
	for i := range l {
		for k := range i {
			if !less(l[k], l[i]) {
				return false
			}
		}
	}
	return true
}

// scalarLess is the page's order of scalars.
func scalarLess(a, b api.Value) bool {
	rank := func(v api.Value) int {
		switch {
		case v.Kind == api.Bool && !v.Bool:
			return 0
		case v.Kind == api.Bool:
			return 1
		}
		return v.Kind
	}
	if rank(a) != rank(b) {
		return rank(a) < rank(b)
	}
	return a.Int < b.Int || a.Str < b.Str
}

func isOf(t api.Type, v api.Value) bool {
	want := map[int]int{api.TypeBool: api.Bool, api.TypeInt: api.Int, api.TypeStr: api.Str}[t.Kind]
	if want == 0 || v.Kind != want || value.Check(v, 40) != api.OK {
		return false
	}
	in := len(t.Enum) == 0
	for _, x := range t.Enum {
		in = in || same(x, v)
	}
	return in
}

func faultsOfType(s api.Schema, i int) []fault {
	t := s.Types[i]
	var l []fault
	add := func(question int, broken bool, e api.Errno) {
		if broken {
			l = append(l, fault{2, i, question, e})
		}
	}
	add(1, !nameOK(t.Name) || words[t.Name] > 0 || i > 0 && !(s.Types[i-1].Name < t.Name), api.ErrSchemaName)
	add(2, t.Kind < 1 || t.Kind > 7 || !same(t, kept(t)) || t.Rel < 0 || t.Rel > 2, api.ErrSchema)
	add(3, len(t.Fields) > 256 || len(t.Keys) > 8 || len(t.Enum) > 64, api.ErrSchemaLimit)
	add(4, !risesBy(t.Fields, func(a, b api.Field) bool { return a.Name < b.Name }), api.ErrSchemaName)
	for _, f := range t.Fields {
		add(4, f.Name == "" || len(f.Name) > 64 || !utf8.ValidString(f.Name), api.ErrSchemaName)
		add(5, stands(s, f.Type) == nil, api.ErrSchemaRef)
	}
	add(5, t.Kind >= api.TypeMap && t.Kind <= api.TypeName && stands(s, t.Elem) == nil, api.ErrSchemaRef)
	add(6, t.Kind == api.TypeList && t.Rel == api.Keyed && (len(t.Keys) == 0 || !risesBy(t.Keys, func(a, b string) bool { return a < b })), api.ErrSchemaKeys)
	for _, v := range t.Enum {
		add(7, !isOf(api.Type{Kind: t.Kind}, v), api.ErrSchemaEnum)
	}
	add(7, !risesBy(t.Enum, scalarLess), api.ErrSchemaEnum)
	return l
}

// faultsOfNames is those of the parts 3 and 4.
func faultsOfNames(s api.Schema, i int) []fault {
	t := s.Types[i]
	var l []fault
	if _, e := follow(s, t.Name, nil); t.Kind == api.TypeName && e != api.OK {
		l = append(l, fault{3, i, 1, api.ErrSchemaLoop})
	}
	if t.Kind != api.TypeList {
		return l
	}
	elem, _ := follow(s, t.Elem, nil)
	if t.Rel == api.Set && !meansScalar(s, t.Elem) || t.Rel == api.Keyed && (elem == nil || elem.Kind != api.TypeStruct || elem.Atomic) {
		return append(l, fault{4, i, 1, api.ErrSchemaElem})
	}
	if t.Rel == api.Keyed {
		for _, k := range t.Keys {
			n := slices.IndexFunc(elem.Fields, func(f api.Field) bool { return f.Name == k })
			if n < 0 || !meansScalar(s, elem.Fields[n].Type) {
				l = append(l, fault{4, i, 2, api.ErrSchemaKeys})
			}
		}
	}
	return l
}

func faultsOfKind(s api.Schema, i int) []fault {
	k := s.Roots[i]
	var l []fault
	if !nameOK(k.Kind) || i > 0 && !(s.Roots[i-1].Kind < k.Kind) {
		l = append(l, fault{5, i, 1, api.ErrSchemaName})
	}
	t, _ := follow(s, k.Type, nil)
	if stands(s, k.Type) == nil {
		l = append(l, fault{5, i, 2, api.ErrSchemaRef})
	} else if t == nil || t.Atomic || !meansKind(s, k.Type, api.TypeStruct, api.TypeMap) {
		l = append(l, fault{5, i, 3, api.ErrSchemaRoot})
	}
	return l
}

func wantCheck(s api.Schema) api.Errno {
	if len(s.Types) > 256 || len(s.Roots) > 256 {
		return api.ErrSchemaLimit
	}
	var l []fault
	for i := range s.Types {
		l = append(l, faultsOfType(s, i)...)
		l = append(l, faultsOfNames(s, i)...)
	}
	for i := range s.Roots {
		l = append(l, faultsOfKind(s, i)...)
	}
	sort.SliceStable(l, func(i, k int) bool {
		a, b := l[i], l[k]
		return slices.Compare([]int{a.part, a.at, a.question}, []int{b.part, b.at, b.question}) < 0
	})
	if len(l) > 0 {
		return l[0].e
	}
	return api.OK
}

func wantMeans(s api.Schema, n string) (api.Type, api.Errno) {
	t, e := follow(s, n, nil)
	if t == nil {
		return api.Type{}, e
	}
	return *t, e
}

func wantRoot(s api.Schema, kind string) (api.Type, api.Errno) {
	for _, k := range s.Roots {
		if k.Kind == kind {
			return wantMeans(s, k.Type)
		}
	}
	return api.Type{}, api.ErrKind
}

func wantLeaf(t api.Type) bool {
	return slices.Contains([]int{1, 2, 3}, t.Kind) || slices.Contains([]int{4, 5}, t.Kind) && t.Atomic || t.Kind == 6 && t.Rel == 0
}

// firstField is the type's name of the first field with a name.
func firstField(t api.Type, n string) (string, bool) {
	for _, f := range t.Fields {
		if f.Name == n {
			return f.Type, true
		}
	}
	return "", false
}

// mayStand is P7.5's list of what an element may be, and what is to be meant then.
func mayStand(s api.Schema, t api.Type, e api.Elem) (string, bool) {
	switch {
	case same(e, field(e.Name)) && t.Kind == api.TypeStruct:
		return firstField(t, e.Name)
	case same(e, field(e.Name)) && t.Kind == api.TypeMap:
		return t.Elem, utf8.ValidString(e.Name)
	case same(e, item(e.Item)) && t.Kind == api.TypeList && t.Rel == api.Set:
		x, f := wantMeans(s, t.Elem)
		return t.Elem, f == api.OK && isOf(x, e.Item)
	case same(e, key(e.Key...)) && t.Kind == api.TypeList && t.Rel == api.Keyed:
		x, f := wantMeans(s, t.Elem)
		var keys []string
		ok := f == api.OK && x.Kind == api.TypeStruct
		for _, m := range e.Key {
			n, there := firstField(x, m.Key)
			y, g := wantMeans(s, n)
			keys, ok = append(keys, m.Key), ok && there && g == api.OK && isOf(y, m.Val)
		}
		return t.Elem, ok && slices.Equal(keys, t.Keys)
	}
	return "", false
}

func wantBelow(s api.Schema, t api.Type, e api.Elem) (api.Type, api.Errno) {
	n, ok := mayStand(s, t, e)
	if wantLeaf(t) || !ok {
		return api.Type{}, api.ErrPath
	}
	return wantMeans(s, n)
}

func wantAt(s api.Schema, kind string, p api.Path) (api.Type, api.Errno) {
	if len(p) == 0 {
		return wantRoot(s, kind)
	}
	t, e := wantAt(s, kind, p[:len(p)-1])
	if e != api.OK {
		return t, e
	}
	return wantBelow(s, t, p[len(p)-1])
}

// texts is the strings of a list, or of a map's values; false, if something else is among them.
func texts(l []api.Value) ([]string, bool) {
	var to []string
	for _, v := range l {
		if v.Kind != api.Str {
			return nil, false
		}
		to = append(to, v.Str)
	}
	return to, true
}

// parts is a map's keys and values.
func parts(v api.Value) (keys []string, vals []api.Value) {
	for _, m := range v.Map {
		keys, vals = append(keys, m.Key), append(vals, m.Val)
	}
	return keys, vals
}

// wantType reads a type by the set of its members.
func wantType(n string, v api.Value) (api.Type, bool) {
	t := api.Type{Name: n}
	if v.Kind != api.Map {
		return t, false
	}
	keys, l := parts(v)
	isTrue := func(v api.Value) bool { return same(v, truth(true)) }
	isText := func(v api.Value) bool { return v.Kind == api.Str }
	set := strings.Join(keys, ",")
	switch set {
	case "scalar", "enum,scalar":
		t.Kind = words[l[len(l)-1].Str]
		t.Enum = l[0].List
		return t, t.Kind > 0 && (set == "scalar" || l[0].Kind == api.List && len(t.Enum) > 0)
	case "struct", "atomic,struct":
		t.Kind, t.Atomic = api.TypeStruct, len(l) == 2
		names, vals := parts(l[len(l)-1])
		of, ok := texts(vals)
		for i := range of {
			t.Fields = append(t.Fields, api.Field{Name: names[i], Type: of[i]})
		}
		return t, ok && l[len(l)-1].Kind == api.Map && (!t.Atomic || isTrue(l[0]))
	case "map", "atomic,map":
		t.Kind, t.Atomic, t.Elem = api.TypeMap, len(l) == 2, l[len(l)-1].Str
		return t, isText(l[len(l)-1]) && (!t.Atomic || isTrue(l[0]))
	case "list":
		t.Kind, t.Elem = api.TypeList, l[0].Str
		return t, isText(l[0])
	case "list,set":
		t.Kind, t.Elem, t.Rel = api.TypeList, l[0].Str, api.Set
		return t, isText(l[0]) && isTrue(l[1])
	case "keys,list":
		var ok bool
		t.Kind, t.Elem, t.Rel = api.TypeList, l[1].Str, api.Keyed
		t.Keys, ok = texts(l[0].List)
		return t, ok && l[0].Kind == api.List && isText(l[1])
	case "name":
		t.Kind, t.Elem = api.TypeName, l[0].Str
		return t, isText(l[0])
	}
	return t, false
}

func wantParse(v api.Value) (api.Schema, api.Errno) {
	if e := value.Check(v, 40); e != api.OK {
		return api.Schema{}, e
	}
	var s api.Schema
	keys, l := parts(v)
	if v.Kind != api.Map || !slices.Equal(keys, []string{"kinds", "types"}) || l[0].Kind != api.Map || l[1].Kind != api.Map {
		return s, api.ErrSchema
	}
	good := true
	names, vals := parts(l[1])
	for i := range names {
		t, ok := wantType(names[i], vals[i])
		s.Types, good = append(s.Types, t), good && ok
	}
	names, vals = parts(l[0])
	of, ok := texts(vals)
	for i := range of {
		s.Roots = append(s.Roots, api.Root{Kind: names[i], Type: of[i]})
	}
	if !good || !ok {
		return api.Schema{}, api.ErrSchema
	}
	if e := wantCheck(s); e != api.OK {
		return api.Schema{}, e
	}
	return s, api.OK
}

// loose is a scalar as Go has it.
func loose(v api.Value) any { return []any{nil, v.Bool, v.Int, v.Str}[v.Kind] }

// wantText is the text of a schema that may be, written by the standard library.
func wantText(s api.Schema) string {
	roots, all := map[string]any{}, map[string]any{}
	for _, k := range s.Roots {
		roots[k.Kind] = k.Type
	}
	for _, t := range s.Types {
		m := map[string]any{}
		switch t.Kind {
		case api.TypeStruct:
			of := map[string]any{}
			for _, f := range t.Fields {
				of[f.Name] = f.Type
			}
			m["struct"] = of
		case api.TypeMap, api.TypeList, api.TypeName:
			m[map[int]string{5: "map", 6: "list", 7: "name"}[t.Kind]] = t.Elem
		default:
			m["scalar"] = map[int]string{1: "bool", 2: "int", 3: "string"}[t.Kind]
		}
		if t.Atomic {
			m["atomic"] = true
		}
		if t.Rel == api.Set {
			m["set"] = true
		}
		if t.Rel == api.Keyed {
			m["keys"] = t.Keys
		}
		if len(t.Enum) > 0 {
			var l []any
			for _, v := range t.Enum {
				l = append(l, loose(v))
			}
			m["enum"] = l
		}
		all[t.Name] = m
	}
	b, err := stdjson.Marshal(map[string]any{"kinds": roots, "types": all})
	if err != nil {
		panic(err)
	}
	return string(b)
}

// room is the memory of a list, its spare room too.
type room struct{ from, to uintptr }

// rooms is the memory of all lists of a thing of package api.
func rooms(x any) []room { return roomsOf(reflect.ValueOf(x)) }

func roomsOf(v reflect.Value) []room {
	var l []room
	switch v.Kind() {
	case reflect.Slice:
		if v.Cap() > 0 {
			l = append(l, room{v.Pointer(), v.Pointer() + uintptr(v.Cap())*v.Type().Elem().Size()})
		}
		for i := range v.Len() {
			l = append(l, roomsOf(v.Index(i))...)
		}
	case reflect.Struct:
		for i := range v.NumField() {
			l = append(l, roomsOf(v.Field(i))...)
		}
	}
	return l
}

// checkApart holds rooms against each other: no two may have memory in common.
func checkApart(t *testing.T, what string, l []room) {
	t.Helper()
	sort.Slice(l, func(i, k int) bool { return l[i].from < l[k].from })
	for i := 1; i < len(l); i++ {
		if l[i].from < l[i-1].to {
			t.Errorf("P7.7: %s: two lists share memory", what)
			return
		}
	}
}

// roomy is a thing of package api in memory of its own whose lists have spare room, with something in it; empty lists too.
func roomy[T any](x T) T { return roomyOf(reflect.ValueOf(x)).Interface().(T) }

func roomyOf(v reflect.Value) reflect.Value {
	to := reflect.New(v.Type()).Elem()
	switch v.Kind() {
	case reflect.Slice:
		to.Set(reflect.MakeSlice(v.Type(), v.Len()+2, v.Len()+2))
		for i := range v.Len() {
			to.Index(i).Set(roomyOf(v.Index(i)))
		}
		for i := v.Len(); i < to.Len(); i++ {
			mark(to.Index(i))
		}
		to.SetLen(v.Len())
	case reflect.Struct:
		for i := range v.NumField() {
			to.Field(i).Set(roomyOf(v.Field(i)))
		}
	default:
		to.Set(v)
	}
	return to
}

// mark writes something into all strings and numbers of a thing.
func mark(v reflect.Value) {
	switch v.Kind() {
	case reflect.String:
		v.SetString("scribble")
	case reflect.Int:
		v.SetInt(77)
	case reflect.Struct:
		for i := range v.NumField() {
			mark(v.Field(i))
		}
	}
}

// whole tells a thing with the spare room of its lists as if it were part of them.
func whole(x any) string { return fmt.Sprint(wholeOf(reflect.ValueOf(x))) }

func wholeOf(v reflect.Value) any {
	l := []any{}
	switch v.Kind() {
	case reflect.Slice:
		if v.Cap() > 0 {
			l = append(l, v.Pointer())
		}
		v = v.Slice(0, v.Cap())
		for i := range v.Len() {
			l = append(l, wholeOf(v.Index(i)))
		}
		return l
	case reflect.Struct:
		for i := range v.NumField() {
			l = append(l, wholeOf(v.Field(i)))
		}
		return l
	}
	return fmt.Sprintf("%#v", v.Interface())
}

// scribble writes over all that a thing's lists hold, spare room too.
func scribble(x any) { scribbleOf(reflect.ValueOf(x)) }

func scribbleOf(v reflect.Value) {
	switch v.Kind() {
	case reflect.Slice:
		v = v.Slice(0, v.Cap())
		for i := range v.Len() {
			scribbleOf(v.Index(i))
			mark(v.Index(i))
		}
	case reflect.Struct:
		for i := range v.NumField() {
			scribbleOf(v.Field(i))
		}
	}
}

// pickOf is one of some things.
func pickOf[T any](r *rand.Rand, l ...T) T { return l[r.Intn(len(l))] }

// pickType makes types that mostly may be, if their names lead somewhere.
func pickType(r *rand.Rand, n string, all []string) api.Type {
	t := api.Type{Name: n, Kind: pickOf(r, 1, 2, 2, 3, 3, 4, 4, 4, 5, 6, 6, 6, 7)}
	ref := func() string {
		if r.Intn(3) == 0 {
			return pickOf(r, "bool", "int", "string")
		}
		return pickOf(r, all...)
	}
	switch t.Kind {
	case api.TypeBool, api.TypeInt, api.TypeStr:
		l := map[int][]api.Value{1: {truth(false), truth(true)}, 2: {num(-3), num(0), num(7)}, 3: {text(""), text("a"), text("\u00e9")}}[t.Kind]
		for _, v := range l {
			if r.Intn(4) == 0 {
				t.Enum = append(t.Enum, v)
			}
		}
	case api.TypeStruct:
		t.Atomic = r.Intn(6) == 0
		for _, f := range []string{"a", "b", "c", "\u00e9 \x00"} {
			if r.Intn(2) == 0 {
				t.Fields = append(t.Fields, api.Field{Name: f, Type: ref()})
			}
		}
	case api.TypeMap:
		t.Atomic, t.Elem = r.Intn(4) == 0, ref()
	case api.TypeList:
		t.Elem, t.Rel = ref(), r.Intn(3)
		if t.Rel == api.Keyed {
			t.Keys = pickOf(r, []string{"a"}, []string{"b"}, []string{"a", "b"}, []string{"b", "c"})
		}
	case api.TypeName:
		t.Elem = ref()
	}
	return t
}

// mend turns types that break the rules for elements, keys and loops into others, so that more schemas may be.
func mend(s api.Schema) {
	for i, t := range s.Types {
		if len(faultsOfNames(s, i)) == 0 {
			continue
		}
		elem, _ := follow(s, t.Elem, nil)
		switch {
		case t.Kind == api.TypeList && t.Rel == api.Keyed && elem != nil && elem.Kind == api.TypeStruct && !elem.Atomic:
			var keys []string
			for _, f := range elem.Fields {
				if meansScalar(s, f.Type) {
					keys = append(keys, f.Name)
				}
			}
			s.Types[i].Keys = keys
		case t.Kind == api.TypeList && t.Rel == api.Set:
			s.Types[i].Elem = "int"
		case t.Kind == api.TypeName:
			s.Types[i].Elem = "string"
		}
	}
}

// pickSchema makes schemas, of which many may be.
func pickSchema(r *rand.Rand) api.Schema {
	var all []string
	for _, n := range []string{"A", "B", "C", "D-1", "E_", "a", "b", "inT", "x", "zz"} {
		if r.Intn(2) == 0 {
			all = append(all, n)
		}
	}
	if len(all) == 0 {
		all = []string{"T"}
	}
	var s api.Schema
	for _, n := range all {
		s.Types = append(s.Types, pickType(r, n, all))
	}
	if r.Intn(4) > 0 {
		mend(s)
	}
	for _, k := range []string{"app", "int", "job"} {
		n := pickOf(r, all...)
		if r.Intn(2) == 0 && (meansKind(s, n, api.TypeStruct, api.TypeMap) || r.Intn(8) == 0) {
			s.Roots = append(s.Roots, api.Root{Kind: k, Type: n})
		}
	}
	return s
}

// spoil changes something of a schema.
func spoil(r *rand.Rand, s api.Schema) api.Schema {
	s = roomy(s)
	if n := len(s.Roots); n > 0 && r.Intn(6) == 0 {
		k := &s.Roots[r.Intn(n)]
		*pickOf(r, &k.Kind, &k.Type) = pickOf(r, "", "A", "int", "app", "nix", "a/b", "x")
		return s
	}
	t := &s.Types[r.Intn(len(s.Types))]
	other := s.Types[r.Intn(len(s.Types))]
	switch r.Intn(16) {
	case 0:
		t.Name = pickOf(r, "", "int", "1a", "a b", other.Name, "A")
	case 1:
		t.Kind = pickOf(r, 0, 1, 2, 3, 4, 5, 6, 7, 8, -1)
	case 2:
		t.Atomic = !t.Atomic
	case 3:
		t.Fields = append(t.Fields, api.Field{Name: pickOf(r, "", "a", "z", "\xff"), Type: pickOf(r, "int", "nix", other.Name)})
	case 4, 5:
		t.Elem = pickOf(r, "", "int", "nix", other.Name, other.Name, t.Name)
	case 6:
		t.Rel = pickOf(r, -1, 0, 1, 2, 3)
	case 7, 8:
		t.Keys = pickOf(r, nil, []string{}, []string{"a"}, []string{"b", "a"}, []string{"a", "a"}, []string{"a", "z"})
	case 9, 10:
		t.Enum = append(t.Enum, pickOf(r, num(7), num(-3), text("a"), truth(true), bad, null, list(num(1))))
	case 11:
		if len(t.Fields) > 0 {
			t.Fields[r.Intn(len(t.Fields))].Type = pickOf(r, "nix", other.Name, "string")
		}
	case 12, 13:
		*t, s.Types[0] = s.Types[0], *t
	case 14:
		t.Kind, t.Elem = api.TypeName, other.Name
	case 15:
		t.Kind = other.Kind
	}
	return s
}

// pickElem makes elements of few parts, some of which may not be.
func pickElem(r *rand.Rand) api.Elem {
	pickVal := func() api.Value {
		return pickOf(r, num(-3), num(0), num(7), text(""), text("a"), text("b"), text("\u00e9"), truth(true), truth(false), null, list())
	}
	e := api.Elem{Kind: pickOf(r, 1, 1, 1, 2, 2, 3)}
	switch e.Kind {
	case api.ElemField:
		e.Name = pickOf(r, "a", "b", "c", "\u00e9 \x00", "", "z", "\xff")
	case api.ElemKey:
		for _, k := range pickOf(r, []string{"a"}, []string{"b"}, []string{"a", "b"}, []string{"b", "c"}, []string{"b", "a"}, []string{}) {
			e.Key = append(e.Key, at(k, pickVal()))
		}
	case api.ElemItem:
		e.Item = pickVal()
	}
	switch r.Intn(20) {
	case 0:
		e.Kind = pickOf(r, 0, 1, 2, 3, 4, -1)
	case 1:
		e.Name = "a"
	case 2:
		e.Key = append(e.Key, at("a", num(0)))
	case 3:
		e.Item = pickOf(r, num(0), text("a"), list(), truth(false))
	}
	return e
}
