package schema

import (
	"errors"

	"freehold/api"
	"freehold/value"
)

// The keys by which a value says a schema.
const (
	keyKinds  = "kinds"
	keyTypes  = "types"
	keyAtomic = "atomic"
	keyEnum   = "enum"
	keyKeys   = "keys"
	keyList   = "list"
	keyMap    = "map"
	keyName   = "name"
	keyScalar = "scalar"
	keySet    = "set"
	keyStruct = "struct"
)

// errNoSchema is what the reader gives up with, from however deep inside.
var errNoSchema = errors.New("the value says no schema")

// must gives up, if something is not written as it has to be.
func must(ok bool) {
	if !ok {
		panic(errNoSchema)
	}
}

// readSchema is what a value says, be it a schema that may be or not. It panics with errNoSchema, if the value says none.
func readSchema(v api.Value) api.Schema {
	l := readMap(v)
	must(len(l) == 2 && l[0].Key == keyKinds && l[1].Key == keyTypes)
	var s api.Schema
	for _, m := range readMap(l[0].Val) {
		s.Roots = append(s.Roots, api.Root{Kind: m.Key, Type: readText(m.Val)})
	}
	for _, m := range readMap(l[1].Val) {
		s.Types = append(s.Types, readType(m.Key, m.Val))
	}
	return s
}

// readType takes each member for what it says by itself; whether they go together the table of kinds tells.
func readType(name string, v api.Value) api.Type {
	t := api.Type{Name: name}
	for _, m := range readMap(v) {
		readPart(&t, m.Key, m.Val)
	}
	must(fits(t))
	return t
}

func readPart(t *api.Type, key string, v api.Value) {
	switch key {
	case keyScalar:
		x, ok := scalarNamed(readText(v))
		must(ok)
		setKind(t, x.Kind)
	case keyStruct:
		setKind(t, api.TypeStruct)
		t.Fields = readFields(v)
	case keyMap:
		setKind(t, api.TypeMap)
		t.Elem = readText(v)
	case keyList:
		setKind(t, api.TypeList)
		t.Elem = readText(v)
	case keyName:
		setKind(t, api.TypeName)
		t.Elem = readText(v)
	case keyAtomic:
		t.Atomic = readTrue(v)
	case keySet:
		readTrue(v)
		setRel(t, api.Set)
	case keyKeys:
		setRel(t, api.Keyed)
		t.Keys = readTexts(v)
	case keyEnum:
		t.Enum = readSome(v)
	default:
		must(false)
	}
}

// setKind and setRel give up where two members say a kind, or two a Rel: no type is said so.
func setKind(t *api.Type, kind int) {
	must(t.Kind == 0)
	t.Kind = kind
}

func setRel(t *api.Type, rel int) {
	must(t.Rel == api.Whole)
	t.Rel = rel
}

func readFields(v api.Value) []api.Field {
	var l []api.Field
	for _, m := range readMap(v) {
		l = append(l, api.Field{Name: m.Key, Type: readText(m.Val)})
	}
	return l
}

func readTexts(v api.Value) []string {
	var l []string
	for _, x := range readList(v) {
		l = append(l, readText(x))
	}
	return l
}

// readSome is the values of a list that must not be empty: a type without an enum is said without that member.
func readSome(v api.Value) []api.Value {
	from := readList(v)
	must(len(from) > 0)
	var l []api.Value
	for _, x := range from {
		l = append(l, value.Clone(x))
	}
	return l
}

func readMap(v api.Value) []api.Member {
	must(v.Kind == api.Map)
	return v.Map
}

func readList(v api.Value) []api.Value {
	must(v.Kind == api.List)
	return v.List
}

func readText(v api.Value) string {
	must(v.Kind == api.Str)
	return v.Str
}

func readTrue(v api.Value) bool {
	must(v.Kind == api.Bool && v.Bool)
	return true
}
