package validate

import (
	"slices"
	"strings"

	"freehold/api"
	"freehold/schema"
)

// book keeps what the names of a schema mean: a value may have many parts of one type, and a schema that is asked goes through its types and copies the one that it answers.
type book struct {
	schema api.Schema
	known  map[string]api.Type
}

// means is the type that a name of the schema means. That it means one is sure: a schema that may be uses no others.
func (b *book) means(name string) api.Type {
	t, there := b.known[name]
	if !there {
		t, _ = schema.Means(b.schema, name)
		b.known[name] = t
	}
	return t
}

// under is the name of the type that a member of a struct's or a map's value has; false, if the struct has no such field.
func under(t api.Type, key string) (string, bool) {
	if t.Kind == api.TypeMap {
		return t.Elem, true
	}
	i, there := slices.BinarySearchFunc(t.Fields, key, func(f api.Field, key string) int { return strings.Compare(f.Name, key) })
	if !there {
		return "", false
	}
	return t.Fields[i].Type, true
}

// member is a map's value of a key; null, if it has none, which is the same to a type.
func member(v api.Value, key string) api.Value {
	i, there := slices.BinarySearchFunc(v.Map, key, func(m api.Member, key string) int { return strings.Compare(m.Key, key) })
	if !there {
		return api.Value{}
	}
	return v.Map[i].Val
}
