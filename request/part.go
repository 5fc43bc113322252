package request

import (
	"freehold/api"
	"freehold/managers"
	"freehold/quote"
	"freehold/value"
)

// part is a member of the map of an answer, of an item or of an event, as closures over its field.
type part struct {
	key   string
	bit   int // what it is of what an answer can have; 0: it is always had
	empty func() bool
	fits  func() bool                   // what stands in the field may be told
	tell  func() (api.Value, api.Errno) // the field as a value
	take  func(v api.Value)             // what a value tells comes into the field, whether it may be told or not
}

// within tells whether a part is of what is had.
func (p part) within(has int) bool { return p.bit&has == p.bit }

// fit tells whether what is had may be told, and all else is empty.
func fit(l []part, has int) bool {
	for _, p := range l {
		if p.within(has) && !p.fits() || !p.within(has) && !p.empty() {
			return false
		}
	}
	return true
}

// tell is the map of what is had, or the first error that entries in it have.
func tell(l []part, has int) (api.Value, api.Errno) {
	v := api.Value{Kind: api.Map}
	for _, p := range l {
		if !p.within(has) {
			continue
		}
		x, e := p.tell()
		if e != api.OK {
			return api.Value{}, e
		}
		v.Map = append(v.Map, api.Member{Key: p.key, Val: x})
	}
	return v, api.OK
}

// take takes what the members of a map tell; the answer is what is had.
func take(l []part, members []api.Member) int {
	has := 0
	for _, p := range l {
		for _, m := range members {
			if m.Key == p.key {
				p.take(m.Val)
				has |= p.bit
			}
		}
	}
	return has
}

func revision(key string, bit int, field *int) part {
	return part{key, bit,
		func() bool { return *field == 0 },
		func() bool { return *field >= 0 && *field <= api.MaxRevision },
		func() (api.Value, api.Errno) { return api.Value{Kind: api.Int, Int: *field}, api.OK },
		func(v api.Value) { *field = v.Int },
	}
}

func line(key string, bit int, field *string, most int) part {
	return part{key, bit,
		func() bool { return *field == "" },
		func() bool { return len(*field) <= most && quote.Valid(*field) },
		func() (api.Value, api.Errno) { return api.Value{Kind: api.Str, Str: *field}, api.OK },
		func(v api.Value) { *field = v.Str },
	}
}

// word is a number that is told by its word.
func word(key string, bit int, field *int, wordOf func(n int) string) part {
	return part{key, bit,
		func() bool { return *field == 0 },
		func() bool { return wordOf(*field) != "" },
		func() (api.Value, api.Errno) { return api.Value{Kind: api.Str, Str: wordOf(*field)}, api.OK },
		func(v api.Value) { *field = numbered(v.Str, wordOf) },
	}
}

func held(key string, bit int, field *api.Value) part {
	return part{key, bit,
		func() bool { return value.Equal(*field, api.Value{}) },
		func() bool { return value.Check(*field, api.DeepRecord) == api.OK },
		func() (api.Value, api.Errno) { return *field, api.OK },
		func(v api.Value) { *field = v },
	}
}

func owners(key string, bit int, field *[]api.Entry) part {
	return part{key, bit,
		func() bool { return len(*field) == 0 },
		func() bool { return managers.Check(*field) == api.OK },
		func() (api.Value, api.Errno) { return managers.Encode(*field) },
		func(v api.Value) { *field, _ = managers.Decode(v) },
	}
}

func collisions(key string, bit int, field *[]api.Conflict) part {
	return part{key, bit,
		func() bool { return len(*field) == 0 },
		func() bool { return mayBe(*field) },
		func() (api.Value, api.Errno) { return managers.Encode(entriesOf(*field)) },
		func(v api.Value) {
			l, _ := managers.Decode(v)
			*field = conflictsOf(l)
		},
	}
}

// row is a list of things each of which is told by parts of its own.
func row[T any](key string, bit int, field *[]T, partsOf func(x *T) []part) part {
	return part{key, bit,
		func() bool { return len(*field) == 0 },
		func() bool {
			for _, x := range *field {
				if !fit(partsOf(&x), 0) {
					return false
				}
			}
			return true
		},
		func() (api.Value, api.Errno) {
			v := api.Value{Kind: api.List}
			for _, x := range *field {
				m, e := tell(partsOf(&x), 0)
				if e != api.OK {
					return api.Value{}, e
				}
				v.List = append(v.List, m)
			}
			return v, api.OK
		},
		func(v api.Value) {
			for _, m := range v.List {
				var x T
				take(partsOf(&x), m.Map)
				*field = append(*field, x)
			}
		},
	}
}
