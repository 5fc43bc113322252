package schema

import (
	"slices"
	"testing"

	"freehold/api"
)

// base is a schema with room for every fault: a struct, a list, a scalar and a name twice each.
func base() api.Schema {
	return api.Schema{
		Types: []api.Type{
			{Name: "b-struct", Kind: api.TypeStruct, Fields: fields("f", "int", "g", "int", "h", "b-struct")},
			{Name: "d-list", Kind: api.TypeList, Elem: "b-struct", Rel: api.Keyed, Keys: []string{"f", "g"}},
			{Name: "f-scalar", Kind: api.TypeInt, Enum: []api.Value{num(1), num(2)}},
			{Name: "h-name", Kind: api.TypeName, Elem: "b-struct"},
			{Name: "j-struct", Kind: api.TypeStruct, Fields: fields("f", "int", "g", "int", "h", "b-struct")},
			{Name: "l-list", Kind: api.TypeList, Elem: "j-struct", Rel: api.Keyed, Keys: []string{"f", "g"}},
			{Name: "n-scalar", Kind: api.TypeInt, Enum: []api.Value{num(1), num(2)}},
			{Name: "p-name", Kind: api.TypeName, Elem: "j-struct"},
			{Name: "r-set", Kind: api.TypeList, Elem: "int", Rel: api.Set},
		},
		Roots: []api.Root{{Kind: "k", Type: "b-struct"}, {Kind: "m", Type: "p-name"}},
	}
}

// A breach is one fault that base is given, and the place that the chapter's order gives it: part, type or kind, question.
type breach struct {
	what  string
	place [3]int
	e     api.Errno
	does  func(s *api.Schema)
}

func breaches() []breach {
	l := []breach{
		{"too many kinds", [3]int{1, 0, 0}, 76, func(s *api.Schema) { s.Roots = append(s.Roots, make([]api.Root, 256)...) }},
		{"too many types", [3]int{1, 0, 0}, 76, func(s *api.Schema) {
			for range 256 {
				s.Types = append(s.Types, api.Type{Name: "r-set", Kind: api.TypeInt})
			}
		}},
		{"a set of structs", [3]int{4, 8, 1}, 75, func(s *api.Schema) { s.Types[8].Elem = "b-struct" }},
	}
	for _, i := range []int{0, 4} {
		l = append(l,
			breach{"a type's name", [3]int{2, i, 1}, 71, func(s *api.Schema) { s.Types[i].Name = "" }},
			breach{"an Elem of a struct", [3]int{2, i, 2}, 70, func(s *api.Schema) { s.Types[i].Elem = "int" }},
			breach{"too many fields", [3]int{2, i, 3}, 76, func(s *api.Schema) { s.Types[i].Fields = append(s.Types[i].Fields, make([]api.Field, 256)...) }},
			breach{"a field's name", [3]int{2, i, 4}, 71, func(s *api.Schema) { s.Types[i].Fields[2].Name = "g" }},
			breach{"a field's type", [3]int{2, i, 5}, 72, func(s *api.Schema) { s.Types[i].Fields[2].Type = "nix" }},
			breach{"a list's name", [3]int{2, i + 1, 1}, 71, func(s *api.Schema) { s.Types[i+1].Name = "b" }},
			breach{"a list's Rel", [3]int{2, i + 1, 2}, 70, func(s *api.Schema) { s.Types[i+1].Rel = 3 }},
			breach{"too many keys", [3]int{2, i + 1, 3}, 76, func(s *api.Schema) { s.Types[i+1].Keys = append(s.Types[i+1].Keys, make([]string, 8)...) }},
			breach{"a list's Elem", [3]int{2, i + 1, 5}, 72, func(s *api.Schema) { s.Types[i+1].Elem = "nix" }},
			breach{"a list's keys", [3]int{2, i + 1, 6}, 74, func(s *api.Schema) { s.Types[i+1].Keys[1] = "e" }},
			breach{"a list of no structs", [3]int{4, i + 1, 1}, 75, func(s *api.Schema) { s.Types[i+1].Elem = "int" }},
			breach{"a key that is no field", [3]int{4, i + 1, 2}, 74, func(s *api.Schema) { s.Types[i+1].Keys[0] = "a" }},
			breach{"a scalar's Atomic", [3]int{2, i + 2, 2}, 70, func(s *api.Schema) { s.Types[i+2].Atomic = true }},
			breach{"too long an enum", [3]int{2, i + 2, 3}, 76, func(s *api.Schema) {
				for k := range 64 {
					s.Types[i+2].Enum = append(s.Types[i+2].Enum, num(k+3))
				}
			}},
			breach{"an enum's order", [3]int{2, i + 2, 7}, 78, func(s *api.Schema) { s.Types[i+2].Enum[1] = num(0) }},
			breach{"an enum's kind", [3]int{2, i + 2, 7}, 78, func(s *api.Schema) { s.Types[i+2].Enum[0] = truth(true) }},
			breach{"a name's kind", [3]int{2, i + 3, 2}, 70, func(s *api.Schema) { s.Types[i+3].Keys = []string{"a"} }},
			breach{"a name of nothing", [3]int{2, i + 3, 5}, 72, func(s *api.Schema) { s.Types[i+3].Elem = "nix" }},
			breach{"a round", [3]int{3, i + 3, 1}, 73, func(s *api.Schema) { s.Types[i+3].Elem = s.Types[i+3].Name }},
		)
	}
	for i := range 2 {
		l = append(l,
			breach{"a kind's name", [3]int{5, i, 1}, 71, func(s *api.Schema) { s.Roots[i].Kind = "" }},
			breach{"a kind's type", [3]int{5, i, 2}, 72, func(s *api.Schema) { s.Roots[i].Type = "nix" }},
			breach{"a kind of scalars", [3]int{5, i, 3}, 77, func(s *api.Schema) { s.Roots[i].Type = "n-scalar" }},
		)
	}
	return l
}

// Of any two faults the one that the chapter asks for first is told.
func TestOrderOfFaults(t *testing.T) {
	if e := checkSchema(t, base()); e != api.OK {
		t.Fatalf("P7.1: the base: %d", e)
	}
	l := breaches()
	for _, a := range l {
		s := base()
		a.does(&s)
		if e := checkSchema(t, s); e != a.e {
			t.Errorf("P7.1: %s (%v): %d, want %d", a.what, a.place, e, a.e)
		}
		for _, b := range l {
			if slices.Compare(a.place[:], b.place[:]) >= 0 {
				continue
			}
			both := base()
			a.does(&both)
			b.does(&both)
			e, one := Check(both), base()
			b.does(&one)
			if f := wantCheck(both); e != f {
				t.Errorf("P7.1: %s (%v) and %s (%v): %d, want %d", a.what, a.place, b.what, b.place, e, f)
			}
			// A fault that mends the one ahead of it has its own number.
			if e != a.e && wantCheck(both) != wantCheck(one) {
				t.Errorf("P7.1: %s (%v) and %s (%v): %d", a.what, a.place, b.what, b.place, e)
			}
		}
	}
}
