package server

import (
	"strings"

	"freehold/api"
	"freehold/value"
)

// anew is a schema that may be in memory of its own. Its texts are copied too: they may be pieces of a long one, which would be kept whole.
func anew(sc api.Schema) api.Schema {
	return api.Schema{
		Types: each(sc.Types, anewType),
		Roots: each(sc.Roots, func(r api.Root) api.Root {
			return api.Root{Kind: strings.Clone(r.Kind), Type: strings.Clone(r.Type)}
		}),
	}
}

func anewType(t api.Type) api.Type {
	t.Name, t.Elem = strings.Clone(t.Name), strings.Clone(t.Elem)
	t.Fields = each(t.Fields, func(x api.Field) api.Field {
		return api.Field{Name: strings.Clone(x.Name), Type: strings.Clone(x.Type)}
	})
	t.Keys = each(t.Keys, strings.Clone)
	t.Enum = each(t.Enum, func(v api.Value) api.Value {
		v = value.Clone(v)
		v.Str = strings.Clone(v.Str)
		return v
	})
	return t
}

// each is a new list of what is made of each thing of another one.
func each[T any](from []T, made func(x T) T) []T {
	var to []T
	for _, x := range from {
		to = append(to, made(x))
	}
	return to
}
