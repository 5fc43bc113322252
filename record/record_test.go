package record

import (
	"bytes"
	"errors"
	"fmt"
	"strings"
	"testing"

	"freehold/api"
	"freehold/json"
	"freehold/managers"
	"freehold/value"
)

// example is chapter 12's types, and some more.
func example() api.Schema {
	return api.Schema{
		Types: []api.Type{
			{Name: "At", Kind: api.TypeStruct, Atomic: true, Fields: fields("l", "L", "u", "int")},
			{Name: "E", Kind: api.TypeStruct, Fields: fields("id", "int", "x", "string")},
			{Name: "L", Kind: api.TypeList, Rel: api.Keyed, Keys: []string{"id"}, Elem: "E"},
			{Name: "M", Kind: api.TypeMap, Elem: "string"},
			{Name: "N", Kind: api.TypeStruct, Fields: fields("at", "At", "b", "bool", "id", "int", "m", "M", "n", "Ns", "s", "S")},
			{Name: "Ns", Kind: api.TypeList, Rel: api.Keyed, Keys: []string{"b", "id"}, Elem: "N"},
			{Name: "Other", Kind: api.TypeName, Elem: "T"},
			{Name: "S", Kind: api.TypeList, Rel: api.Set, Elem: "string"},
			{Name: "T", Kind: api.TypeStruct, Fields: fields("a", "int", "l", "L", "m", "M", "s", "S", "w", "W")},
			{Name: "Tree", Kind: api.TypeMap, Elem: "Tree"},
			{Name: "W", Kind: api.TypeList, Elem: "int"},
		},
		Roots: []api.Root{{Kind: "t", Type: "T"}},
	}
}

// broken is the example with a type that stands there twice.
func broken() api.Schema {
	s := example()
	s.Types = append(s.Types, s.Types[len(s.Types)-1])
	return s
}

const (
	apply  = api.ByApply
	update = api.ByUpdate
)

// nested is a value with elements of keyed lists within elements.
const nested = `{"b":true,"n":[{"at":{"u":1},"b":false,"id":1,"m":{"k":"v"},"n":[{"b":false,"id":2,"s":["p"]},{"b":true,"id":2}],"s":["q"]}]}`

func TestCheck(t *testing.T) {
	one, two := ".n[b=false,id=1]", ".n[b=false,id=1].n[b=false,id=2]"
	for i, c := range []struct {
		typ string
		o   api.Object
		e   api.Errno
	}{
		// the chapter's
		{"T", of(`{"a":1}`), api.OK},
		{"T", of(`{"a":1}`, entry("m", apply, ".a")), api.OK},
		{"T", of(`{"a":1}`, entry("m", apply, ".m.k")), api.ErrRecord},
		{"T", of(`{"m":{}}`), api.ErrLeaf},
		{"T", of(`{"q":1}`), api.ErrField},
		{"T", of(`{"l":[{"id":2,"x":"q"}]}`, entry("m", apply, ".l[id=2].x")), api.ErrRecord},
		{"T", of(`{"l":[{"id":2,"x":"q"}]}`, entry("m", update, ".l[id=2].x")), api.OK},
		// no leaves: what lies above leaves, beside them, below them; key fields
		{"T", of(`{}`), api.OK},
		{"T", of(`{}`, entry("m", update, "")), api.ErrRecord},
		{"T", of(`{"a":1}`, entry("m", update, "")), api.ErrRecord},
		{"T", of(`{"a":1}`, entry("m", update, "", ".a")), api.ErrRecord},
		{"T", of(`{"a":1}`, entry("m", update, ".a", ".b")), api.ErrRecord},
		{"T", of(`{"a":1}`, entry("m", update, ".a.a")), api.ErrRecord},
		{"T", of(`{"a":1}`, entry("m", update, ".w")), api.ErrRecord},
		{"T", of(`{"m":{"k":"v"}}`, entry("m", update, ".m")), api.ErrRecord},
		{"T", of(`{"m":{"k":"v"}}`, entry("m", apply, ".m.k")), api.OK},
		{"T", of(`{"m":{"k":"v"}}`, entry("m", apply, ".m.K")), api.ErrRecord},
		{"T", of(`{"s":["p"]}`, entry("m", apply, ".s")), api.ErrRecord},
		{"T", of(`{"s":["p"]}`, entry("m", apply, `.s[="p"]`)), api.OK},
		{"T", of(`{"s":["p"]}`, entry("m", apply, `.s[="q"]`)), api.ErrRecord},
		{"T", of(`{"s":["1"]}`, entry("m", apply, `.s[=1]`)), api.ErrRecord},
		{"T", of(`{"s":["p"]}`, entry("m", apply, `.s.p`)), api.ErrRecord},
		{"T", of(`{"w":[3]}`, entry("m", apply, ".w")), api.OK},
		{"T", of(`{"w":[]}`, entry("m", apply, ".w")), api.OK},
		{"T", of(`{"w":[3]}`, entry("m", apply, ".w[=3]")), api.ErrRecord},
		{"T", of(`{"l":[{"id":2}]}`, entry("m", apply, ".l")), api.ErrRecord},
		{"T", of(`{"l":[{"id":2}]}`, entry("m", apply, ".l[id=2]")), api.OK},
		{"T", of(`{"l":[{"id":2}]}`, entry("m", update, ".l[id=3]")), api.ErrRecord},
		{"T", of(`{"l":[{"id":2}]}`, entry("m", update, `.l[id="2"]`)), api.ErrRecord},
		{"T", of(`{"l":[{"id":2}]}`, entry("m", update, ".l[id=2].id")), api.ErrRecord},
		{"T", of(`{"l":[{"id":2}]}`, entry("m", update, ".l[id=2].x")), api.ErrRecord},
		{"T", of(`{"l":[{"id":2}]}`, entry("m", update, ".l[x=2]")), api.ErrRecord},
		{"T", of(`{"l":[{"id":2}]}`, entry("m", update, ".l[=2]")), api.ErrRecord},
		{"T", of(`{"l":[{"id":2,"x":"q"}]}`, entry("m", apply, ".l[id=2]", ".l[id=2].id", ".l[id=2].x")), api.ErrRecord},
		{"Other", of(`{"a":1}`, entry("m", apply, ".a")), api.OK},
		// elements above: by apply all of them, by update none
		{"T", of(`{"l":[{"id":2,"x":"q"}]}`, entry("m", apply, ".l[id=2]", ".l[id=2].x")), api.OK},
		{"T", of(`{"l":[{"id":2,"x":"q"}]}`, entry("m", apply, ".l[id=2].x"), entry("m", update, ".l[id=2]")), api.ErrRecord}, // in that entry, not in another one
		{"T", of(`{"l":[{"id":2,"x":"q"}]}`, entry("m", apply, ".l[id=2].x"), entry("n", apply, ".l[id=2]")), api.ErrRecord},
		{"T", of(`{"l":[{"id":2,"x":"q"}]}`, entry("m", apply, ".l[id=2]"), entry("m", update, ".l[id=2].x")), api.OK},
		{"T", of(`{"l":[{"id":2,"x":"q"},{"id":3}]}`, entry("m", apply, ".l[id=2].x", ".l[id=3]")), api.ErrRecord},
		{"T", of(`{"l":[{"id":2,"x":"q"},{"id":3,"x":""}]}`, entry("m", apply, ".l[id=2]", ".l[id=2].x", ".l[id=3].x")), api.ErrRecord},
		{"T", of(`{"l":[{"id":2,"x":"q"}]}`, entry("m", update, ".l[id=2].x"), entry("n", apply, ".l[id=2].x")), api.ErrRecord}, // the second entry
		{"N", of(nested, entry("m", apply, ".b", one, one+".at", one+".m.k", two, two+`.s[="p"]`, one+".n[b=true,id=2]", one+`.s[="q"]`)), api.OK},
		{"N", of(nested, entry("m", update, ".b", one+".at", one+".m.k", two+`.s[="p"]`, one+".n[b=true,id=2]", one+`.s[="q"]`)), api.OK},
		{"N", of(nested, entry("m", apply, one+".at")), api.ErrRecord},
		{"N", of(nested, entry("m", apply, one+".m.k")), api.ErrRecord},
		{"N", of(nested, entry("m", apply, one+`.s[="q"]`)), api.ErrRecord},
		{"N", of(nested, entry("m", apply, one, one+`.s[="q"]`)), api.OK},
		{"N", of(nested, entry("m", apply, one, two)), api.OK},
		{"N", of(nested, entry("m", apply, two)), api.ErrRecord},
		{"N", of(nested, entry("m", apply, one, two+`.s[="p"]`)), api.ErrRecord},
		{"N", of(nested, entry("m", apply, two, two+`.s[="p"]`)), api.ErrRecord},
		{"N", of(nested, entry("m", apply, one, one+".n[b=true,id=2]", one+`.s[="q"]`)), api.OK},
		{"N", of(nested, entry("m", apply, one, one+".at", one+".at.u")), api.ErrRecord},
		{"N", of(nested, entry("m", update, one+".b")), api.ErrRecord},
		{"N", of(nested, entry("m", update, ".n[b=false]")), api.ErrRecord},
		// types that are leaves, or lists
		{"int", of(`5`), api.OK},
		{"int", of(`5`, entry("m", apply, ""), entry("n", update, "")), api.OK},
		{"int", of(`5`, entry("m", apply, ".a")), api.ErrRecord},
		{"W", of(`[1]`, entry("m", apply, "")), api.OK},
		{"W", of(`[1]`, entry("m", apply, "[=1]")), api.ErrRecord},
		{"At", of(`{"l":[{"id":2},{"id":1}]}`, entry("m", apply, "")), api.OK},
		{"At", of(`{"l":[{"id":2}]}`, entry("m", update, ".l[id=2]")), api.ErrRecord},
		{"S", of(`["a","b"]`, entry("m", apply, `[="b"]`)), api.OK},
		{"S", of(`["a","b"]`, entry("m", apply, "")), api.ErrRecord},
		{"L", of(`[{"id":1,"x":""}]`, entry("m", apply, "[id=1]", "[id=1].x")), api.OK},
		{"L", of(`[{"id":1,"x":""}]`, entry("m", apply, "[id=1].x")), api.ErrRecord},
		{"M", of(`{}`), api.OK},
		// values that are not normal
		{"T", of(`{"a":null}`), api.ErrLeaf},
		{"T", of(`{"s":["q","p"]}`), api.ErrLeaf},
		{"T", of(`{"l":[{"id":2},{"id":1}]}`), api.ErrLeaf},
		{"T", of(`{"l":[{"id":1,"x":null}]}`), api.ErrLeaf},
		{"S", of(`[]`), api.OK},
		{"N", of(`{"at":{"l":[],"u":null}}`), api.ErrLeaf},
		{"N", of(`{"at":{"l":[]}}`), api.OK},
		// values that are not valid
		{"T", of(`null`), api.ErrNull},
		{"T", api.Object{}, api.ErrNull},
		{"T", of(`5`), api.ErrShape},
		{"T", of(`{"s":["p","p"]}`), api.ErrTwice},
		{"T", of(`{"l":[{}]}`), api.ErrKey},
		{"T", api.Object{Value: api.Value{Kind: 9}}, api.ErrValue},
		{"T", api.Object{Value: object(at("b", null), at("a", null))}, api.ErrValue},
		{"Tree", of(strings.Repeat(`{"k":`, 33) + "{}" + strings.Repeat("}", 33)), api.ErrDeep},
		// entries that may not be
		{"T", of(`{"a":1}`, entry("", apply, ".a")), api.ErrName},
		{"T", of(`{"a":1}`, entry("m", 3, ".a")), api.ErrEntries},
		{"T", of(`{"a":1}`, entry("m", apply)), api.ErrEntries},
		{"T", of(`{"a":1}`, entry("m", apply, ".a"), entry("m", update, ".a")), api.ErrEntries},
		{"T", of(`{"a":1}`, entry("m", apply, ".a", ".a")), api.ErrSet},
		{"T", of(`{"a":1}`, api.Entry{Manager: "m", Way: apply, Fields: []api.Path{{{}}}}), api.ErrPath},
		{"T", of(`{"a":1}`, many(64)...), api.OK},
		{"T", of(`{"a":1}`, many(65)...), api.ErrManagers},
		{"no such type", of(`{"a":1}`), api.ErrSchemaRef},
		{"", of(`{"a":1}`), api.ErrSchemaRef},
	} {
		if e := Check(example(), c.typ, c.o); e != c.e {
			t.Errorf("P15.1: the case %d: Check(%s, %s) = %d, want %d", i, c.typ, tell(c.o), e, c.e)
		}
		if l, e := Free(example(), c.typ, c.o); e != c.e || e != api.OK && l != nil {
			t.Errorf("P15.5: the case %d: Free(%s, %s) = %s, %d, want %d", i, c.typ, tell(c.o), tell(l), e, c.e)
		}
		checkCheck(t, example(), c.typ, c.o)
		checkFree(t, example(), c.typ, c.o)
	}
}

// many is so many entries with the path .a.
func many(n int) []api.Entry {
	var l []api.Entry
	for i := range n {
		l = append(l, entry(fmt.Sprintf("m%05d", i), apply, ".a"))
	}
	return l
}

// Of more than one fault the first in the row is told: the schema, the type, the entries, the value, its form, what is owned.
func TestCheckOrder(t *testing.T) {
	wrong := entry("", apply, ".a")
	alien := entry("m", apply, ".l[id=2].x")
	for i, c := range []struct {
		s   api.Schema
		typ string
		o   api.Object
		e   api.Errno
	}{
		{broken(), "no such type", of(`null`, wrong), api.ErrSchemaName},
		{broken(), "T", of(`{"a":1}`), api.ErrSchemaName},
		{example(), "no such type", of(`null`, wrong), api.ErrSchemaRef},
		{example(), "T", of(`null`, wrong), api.ErrName},
		{example(), "T", api.Object{Value: api.Value{Kind: 9}, Entries: []api.Entry{wrong}}, api.ErrName},
		{example(), "T", of(`{"s":["q","p"]}`, entry("m", apply)), api.ErrEntries},
		{example(), "T", of(`{"q":{}}`, alien), api.ErrField},
		{example(), "T", of(`{"a":"x","m":{}}`, alien), api.ErrShape},
		{example(), "T", of(`{"m":{}}`, alien), api.ErrLeaf},
		{example(), "T", of(`{}`, alien), api.ErrRecord},
	} {
		if e := Check(c.s, c.typ, c.o); e != c.e {
			t.Errorf("P15.1: the case %d: %d, want %d", i, e, c.e)
		}
		checkCheck(t, c.s, c.typ, c.o)
		checkFree(t, c.s, c.typ, c.o)
	}
}

// What is wrong is an error that has the part in which it was met, and that of the layer below.
func TestParts(t *testing.T) {
	_, long := bytesOf(of(`"` + strings.Repeat("a", api.MaxObject) + `"`))
	_, large := bytesOf(api.Object{Value: list(make([]api.Value, 65535)...)})
	_, deep := bytesOf(of(strings.Repeat("[", 34) + strings.Repeat("]", 34)))
	_, shape := objectOf([]byte(`{}`))
	_, cut := objectOf([]byte(`{`))
	_, none := objectOf([]byte(`{"owners":[5],"value":5}`))
	check := func(s api.Schema, typ string, o api.Object) error {
		_, err := sound(s, typ, o)
		return err
	}
	for i, c := range []struct {
		err error
		in  part
		is  error
	}{
		{check(broken(), "T", of(`{}`)), partSchema, fault(api.ErrSchemaName)},
		{check(example(), "no such type", of(`{}`)), partType, fault(api.ErrSchemaRef)},
		{check(example(), "T", of(`{}`, entry("", apply))), partEntries, fault(api.ErrName)},
		{check(example(), "T", of(`{"q":1}`)), partValue, fault(api.ErrField)},
		{check(example(), "T", of(`{"m":{}}`)), partValue, fault(api.ErrLeaf)},
		{check(example(), "T", of(`{}`, entry("m", apply, ".a"))), partEntries, errOwned},
		{check(example(), "T", of(`{"l":[{"id":2,"x":"q"}]}`, entry("m", apply, ".l[id=2].x"))), partEntries, errAbove},
		{long, partBytes, errLong},
		{large, partBytes, fault(api.ErrNodes)},
		{deep, partValue, fault(api.ErrDeep)},
		{shape, partBytes, errShape},
		{cut, partBytes, fault(api.ErrTextEnd)},
		{none, partEntries, fault(api.ErrEntries)},
	} {
		var where met
		if !errors.As(c.err, &where) || where.in != c.in {
			t.Errorf("ways: the case %d: %v was not met in %s", i, c.err, c.in)
		}
		if !errors.Is(c.err, c.is) || c.err.Error() != string(c.in)+": "+c.is.Error() {
			t.Errorf("ways: the case %d: %v is not %v", i, c.err, c.is)
		}
	}
	if check(example(), "T", of(`{}`)) != nil || told(nil) != api.OK {
		t.Error("ways: an error of nothing wrong")
	}
}

func TestEncode(t *testing.T) {
	for i, c := range []struct {
		o    api.Object
		text string
	}{
		{of(`{"a":1}`), `{"owners":[],"value":{"a":1}}`},
		{api.Object{}, `{"owners":[],"value":null}`},
		{api.Object{Entries: []api.Entry{}}, `{"owners":[],"value":null}`},
		{of(` [ -0, "\u0041\u0001\u00e9" ] `), `{"owners":[],"value":[0,"A\u0001é"]}`},
		{of(`{}`, entry("b", apply, ".x")), `{"owners":[{"fields":{".x":{}},"manager":"b","way":"apply"}],"value":{}}`}, // no schema is asked
		{of(`5`, entry("m", update, "")), `{"owners":[{"fields":{".":{}},"manager":"m","way":"update"}],"value":5}`},
		{of(`{"a":1,"l":[{"id":2,"x":"q"}],"s":["p"]}`, entry("a", apply, ".a"), entry("a", update, ".l[id=2].x"), entry("\"\u00e9", update, ".l[id=2]", ".l[id=2].x", `.s[="p"]`)), ""},
		{of(`{"a":1,"l":[{"id":2,"x":"q"}],"s":["p"]}`, entry("a", apply, ".a"), entry("a", update, ".l[id=2].x"), entry("b\"\u00e9", update, ".l[id=2]", ".l[id=2].x", `.s[="p"]`)),
			`{"owners":[{"fields":{".a":{}},"manager":"a","way":"apply"},{"fields":{".l":{"[id=2]":{".x":{}}}},"manager":"a","way":"update"},{"fields":{".l":{"[id=2]":{".":{},".x":{}}},".s":{"[=\"p\"]":{}}},"manager":"b\"é","way":"update"}],"value":{"a":1,"l":[{"id":2,"x":"q"}],"s":["p"]}}`},
	} {
		b, e := checkEncode(t, c.o)
		if c.text == "" { // names that do not rise
			if e != api.ErrEntries || b != nil {
				t.Errorf("P15.2: the case %d: %s, %d", i, b, e)
			}
			continue
		}
		if e != api.OK || string(b) != c.text {
			t.Errorf("P15.2: the case %d: %s, %d, want %s", i, b, e, c.text)
		}
		if o, e := checkDecode(t, []byte(c.text)); e != api.OK || !same(o, c.o) {
			t.Errorf("P15.3: the case %d: %s, %d", i, tell(o), e)
		}
	}
}

func TestEncodeRefused(t *testing.T) {
	wrong := entry("", apply, ".a")
	deep := func(n int) api.Value { return read(strings.Repeat("[", n+1) + strings.Repeat("]", n+1)) }
	for i, c := range []struct {
		o api.Object
		e api.Errno
	}{
		{api.Object{Value: api.Value{Kind: 9}}, api.ErrValue},
		{api.Object{Value: api.Value{Kind: 9}, Entries: []api.Entry{wrong}}, api.ErrValue},
		{api.Object{Value: object(at("b", null), at("a", null))}, api.ErrValue},
		{api.Object{Value: text("\xff")}, api.ErrValue},
		{api.Object{Value: deep(32)}, api.OK},
		{api.Object{Value: deep(33)}, api.ErrDeep},
		{api.Object{Value: deep(33), Entries: []api.Entry{wrong}}, api.ErrDeep},
		{api.Object{Value: deep(40)}, api.ErrDeep},
		{api.Object{Value: list(make([]api.Value, 65536)...), Entries: []api.Entry{wrong}}, api.ErrNodes}, // the value's own limits come first
		{api.Object{Value: text(strings.Repeat("a", api.MaxText+1)), Entries: []api.Entry{wrong}}, api.ErrBytes},
		{of(`{}`, wrong), api.ErrName},
		{of(`{}`, entry("m", 0, ".a")), api.ErrEntries},
		{of(`{}`, entry("m", apply)), api.ErrEntries},
		{of(`{}`, entry("m", apply, ".b", ".a")), api.ErrSet},
		{of(`{}`, many(64)...), api.OK},
		{of(`{}`, many(65)...), api.ErrManagers},
		{api.Object{Value: text(strings.Repeat("a", api.MaxText)), Entries: many(65)}, api.ErrManagers},
		{api.Object{Value: list(make([]api.Value, 65535)...), Entries: []api.Entry{wrong}}, api.ErrName},
	} {
		b, e := checkEncode(t, c.o)
		if e != c.e || e != api.OK && b != nil {
			t.Errorf("P15.2: the case %d: %d bytes, %d, want %d", i, len(b), e, c.e)
		}
	}
}

// wide is an entry with so many paths, each with a name of so many bytes.
func wide(manager string, n, bytes int) api.Entry {
	x := api.Entry{Manager: manager, Way: apply}
	for i := range n {
		x.Fields = append(x.Fields, api.Path{field(fmt.Sprintf("%0*d", bytes, i))})
	}
	return x
}

// The bound of a record's bytes, by whatever it is reached.
func TestBound(t *testing.T) {
	letters := func(n int) api.Value { return text(strings.Repeat("a", n)) }
	zeros := func(n int) api.Value {
		l := make([]api.Value, n)
		for i := range l {
			l[i] = num(0)
		}
		return list(l...)
	}
	held := []api.Entry{entry("m", apply, ".a")}
	empty, _ := Encode(api.Object{Value: text(""), Entries: held})
	var wides []api.Entry
	for i := range 64 {
		wides = append(wides, wide(fmt.Sprintf("m%02d", i), 1100, 4))
	}
	for i, c := range []struct {
		o   api.Object
		len int // 0: more than may be
	}{
		{api.Object{Value: letters(131072 - 24)}, 131072},
		{api.Object{Value: letters(131072 - 23)}, 0},
		{api.Object{Value: letters(131072 - 25)}, 131071},
		{api.Object{Value: letters(131072 - len(empty)), Entries: held}, 131072},
		{api.Object{Value: letters(131073 - len(empty)), Entries: held}, 0},
		{api.Object{Value: text(strings.Repeat("\x01", (131072-24)/6))}, 24 + (131072-24)/6*6}, // as it is written, not as it is kept
		{api.Object{Value: text(strings.Repeat("\x01", (131072-24)/6+1))}, 0},
		{api.Object{Value: zeros(65524)}, 131071},
		{api.Object{Value: zeros(65525)}, 0},
		{api.Object{Value: zeros(65535)}, 0},                         // more values with the others than a text may have
		{api.Object{Value: letters(api.MaxText)}, 0},                 // more bytes in strings with the keys
		{api.Object{Value: letters(api.MaxText - 20)}, 0},            // more bytes of a text
		{api.Object{Value: text(strings.Repeat("\x01", 400000))}, 0}, // more bytes of the value's own text
		{of(`{}`, wide("m", 8000, 4)), len(`{"owners":[{"fields":{},"manager":"m","way":"apply"}],"value":{}}`) + 8000*len(`".\"0000\"":{},`) - 1},
		{of(`{}`, wide("m", 65536, 5)), 0},                                             // more values in one set
		{of(`{}`, wide("m", 2, 600000)), 0},                                            // more bytes in one set
		{of(`{}`, wides...), 0},                                                        // more values in all sets
		{of(`{}`, wide("m", 1, 600000), wide("n", 1, 600000)), 0},                      // more bytes in all sets
		{of(`{}`, api.Entry{Manager: "m", Way: apply, Fields: []api.Path{long()}}), 0}, // a path whose elements are long
	} {
		b, e := checkEncode(t, c.o)
		if c.len == 0 {
			if e != api.ErrObject || b != nil {
				t.Errorf("P15.2: the case %d: %d bytes, %d", i, len(b), e)
			}
			continue
		}
		if len(b) != c.len || e != api.OK {
			t.Errorf("P15.2: the case %d: %d bytes, %d, want %d", i, len(b), e, c.len)
		}
		if o, e := checkDecode(t, b); e != api.OK || !same(o, c.o) {
			t.Errorf("P15.6: the case %d: %d", i, e)
		}
	}
}

// long is a path of long elements.
func long() api.Path {
	var p api.Path
	for range 32 {
		p = append(p, key(at("k", text(strings.Repeat("\x00", 4000)))))
	}
	return p
}

// The deepest that may be: a value of MaxDepth, paths of MaxDepth elements.
func TestDepth(t *testing.T) {
	var way, above api.Path
	for i := range 32 {
		above = way
		way = behind(way, field(string(rune('a'+i%26))))
	}
	v := read(strings.Repeat("[", 33) + strings.Repeat("]", 33))
	o := api.Object{Value: v, Entries: []api.Entry{{Manager: "m", Way: apply, Fields: []api.Path{above, way}}}}
	b, e := checkEncode(t, o)
	if e != api.OK {
		t.Fatalf("P15.2: a value %d deep, a path of %d: %d", value.Depth(v), len(way), e)
	}
	if x, e := checkDecode(t, b); e != api.OK || !same(x, o) {
		t.Errorf("P15.6: %d", e)
	}
	if w, _, e := json.Parse(b, api.DeepRecord); e != api.OK || value.Depth(w) != 35 {
		t.Errorf("the table of limits: a record %d deep, %d", value.Depth(w), e)
	}
	for n := 34; n < 44; n++ { // deeper than a value may be; some of it is within what a record's text may be
		s := `{"owners":[],"value":` + strings.Repeat("[", n) + strings.Repeat("]", n) + `}`
		if o, e := checkDecode(t, []byte(s)); e != api.ErrRecord || !same(o, api.Object{}) {
			t.Errorf("P15.3: a value %d deep: %d", n-1, e)
		}
	}
}

func TestDecode(t *testing.T) {
	const held = `[{"fields":{".x":{}},"manager":"b","way":"apply"}]`
	for _, s := range []string{
		"", " ", "{}", "5", "null", "[]", `""`, "{", `{"owners":[]`, `{"value":{}}`, `{"owners":[]}`,
		`{"owners":[],"value": {"a":1}}`, ` {"owners":[],"value":1}`, `{"owners":[],"value":1} `, "{\"owners\":[],\"value\":1}\n", `{ "owners":[],"value":1}`,
		`{"value":1,"owners":[]}`, `{"owners":[],"owners":[],"value":1}`, `{"owners":[],"value":1,"value":1}`, `{"owners":[],"value":1,"x":2}`, `{"a":1,"owners":[],"value":1}`, `{"owners":[],"p":1,"value":1}`,
		`{"Owners":[],"value":1}`, `{"owners":[],"Value":1}`, `{"own\u0065rs":[],"value":1}`, `{"a":[],"b":1}`,
		`{"owners":{},"value":1}`, `{"owners":null,"value":1}`, `{"owners":0,"value":1}`, `{"owners":[1],"value":1}`, `{"owners":[{}],"value":1}`, `{"owners":[[]],"value":1}`,
		`{"owners":[],"value":1.5}`, `{"owners":[],"value":01}`, `{"owners":[],"value":-0}`, `{"owners":[],"value":9223372036854775808}`, `{"owners":[],"value":"\u0041"}`, `{"owners":[],"value":"\/"}`, `{"owners":[],"value":"` + "\xff" + `"}`, `{"owners":[],"value":{"b":1,"a":1}}`, `{"owners":[],"value":{"a":1,"a":1}}`, `{"owners":[],"value":}`, `{"owners":[],"value":nul}`,
		`{"owners":[],"value":1}x`, `{"owners":[],"value":1}{"owners":[],"value":1}`, `[{"owners":[],"value":1}]`, `"{\"owners\":[],\"value\":1}"`,
		`{"owners":` + strings.Replace(held, "apply", "none", 1) + `,"value":1}`, `{"owners":` + strings.Replace(held, `"b"`, `""`, 1) + `,"value":1}`, `{"owners":` + strings.Replace(held, `{".x":{}}`, `{}`, 1) + `,"value":1}`, `{"owners":` + strings.Replace(held, ".x", "x", 1) + `,"value":1}`, `{"owners":` + strings.Replace(held, ":", ": ", 1) + `,"value":1}`,
		`{"owners":` + strings.Replace(held, "}]", `},{"fields":{".x":{}},"manager":"a","way":"apply"}]`, 1) + `,"value":1}`, `{"owners":` + strings.Replace(held, "}]", `},{"fields":{".x":{}},"manager":"b","way":"update"}]`, 1) + `,"value":1}`,
		`{"owners":[],"value":` + held, held, strings.Repeat("[", 131072), strings.Repeat(" ", 131072), string(make([]byte, 131072)),
	} {
		o, e := checkDecode(t, []byte(s))
		if e != api.ErrRecord || !same(o, api.Object{}) {
			t.Errorf("P15.3: %s: %s, %d", tell(s), tell(o), e)
		}
	}
	for _, s := range []string{`{"owners":[],"value":1}`, `{"owners":` + held + `,"value":1}`, `{"owners":` + strings.Replace(held, "}]", `},{"fields":{".y":{}},"manager":"b","way":"update"}]`, 1) + `,"value":{"q":null}}`} {
		if o, e := checkDecode(t, []byte(s)); e != api.OK {
			t.Errorf("P15.3: %s: %s, %d", s, tell(o), e)
		}
	}
	for _, b := range [][]byte{make([]byte, 131073), make([]byte, 2000000), []byte(`{"owners":[],"value":"` + strings.Repeat("a", 131072-23) + `"}`), []byte(`{"owners":[],"value":1}` + strings.Repeat(" ", 131072-22))} {
		if o, e := checkDecode(t, b); e != api.ErrObject || !same(o, api.Object{}) {
			t.Errorf("P15.3: %d bytes: %s, %d", len(b), tell(o), e)
		}
	}
}

// The entries of 65 managers are no object's, however they are written.
func TestDecodeManagers(t *testing.T) {
	b, e := Encode(of(`{"a":1}`, many(64)...))
	if o, f := checkDecode(t, b); e != api.OK || f != api.OK || len(o.Entries) != 64 {
		t.Errorf("P15.3: 64 entries: %d, %d", e, f)
	}
	more := bytes.Replace(b, []byte(`}],"value"`), []byte(`},{"fields":{".a":{}},"manager":"n","way":"apply"}],"value"`), 1)
	if o, e := checkDecode(t, more); e != api.ErrRecord || !same(o, api.Object{}) {
		t.Errorf("P15.3: 65 entries: %d", e)
	}
}

func TestOwners(t *testing.T) {
	o := of(`{"a":1,"s":["p"]}`, entry("m", apply, ".a"), entry("m", update, ".q"), entry("n", update, ".a"))
	for i, c := range []struct {
		p    api.Path
		want []api.Entry
	}{
		{way(".a"), []api.Entry{entry("m", apply, ".a"), entry("n", update, ".a")}},
		{way(".q"), []api.Entry{entry("m", update, ".q")}}, // no schema is asked, nor the value
		{way(".s"), nil},
		{way(`.s[="p"]`), nil},
		{way(".a.b"), nil},
		{nil, nil},
		{api.Path{{}}, nil},
		{api.Path{field("a"), {Kind: 9}}, nil},
		{api.Path{field("\xff")}, nil},
	} {
		if l := checkOwners(t, o, c.p); !same(l, c.want) {
			t.Errorf("P15.4: the case %d: %s", i, tell(l))
		}
	}
	for _, x := range []api.Entry{entry("l", apply, ".a"), entry("o", 3, ".a"), entry("o", apply), entry("o", apply, ".b", ".a"), entry("n", update, ".b")} {
		wrong := o
		wrong.Entries = append(wrong.Entries[:3:3], x)
		if l := checkOwners(t, wrong, way(".a")); len(l) != 0 || managers.Check(wrong.Entries) == api.OK {
			t.Errorf("P15.4: of entries that may not be: %s", tell(l))
		}
	}
	if l := Owners(of(`{"a":1}`, many(65)...), way(".a")); len(l) != 0 {
		t.Errorf("P15.4: of too many entries: %s", tell(l))
	}
	if l := Owners(api.Object{Value: api.Value{Kind: 9}, Entries: o.Entries}, way(".a")); len(l) != 2 { // the value is not looked at
		t.Errorf("P15.4: %s", tell(l))
	}
}

func TestFree(t *testing.T) {
	const v = `{"a":1,"l":[{"id":1,"x":"q"},{"id":2}],"m":{"k":"v"},"s":["p","q"],"w":[]}`
	for i, c := range []struct {
		typ  string
		o    api.Object
		free []string
	}{
		{"T", of(`{"a":1,"s":["p"]}`, entry("m", apply, ".a")), []string{`.s[="p"]`}},
		{"T", of(`{}`), nil},
		{"T", of(v), []string{".a", ".l[id=1]", ".l[id=1].x", ".l[id=2]", ".m.k", `.s[="p"]`, `.s[="q"]`, ".w"}},
		{"T", of(v, entry("m", apply, ".a", ".l[id=1]", ".m.k"), entry("n", update, ".a", `.s[="q"]`)), []string{".l[id=1].x", ".l[id=2]", `.s[="p"]`, ".w"}},
		{"T", of(v, entry("m", update, ".l[id=1].x")), []string{".a", ".l[id=1]", ".l[id=2]", ".m.k", `.s[="p"]`, `.s[="q"]`, ".w"}},
		{"T", of(v, entry("m", apply, ".a", ".l[id=1]", ".l[id=1].x", ".l[id=2]", ".m.k", `.s[="p"]`, `.s[="q"]`, ".w")), nil},
		{"int", of(`5`), []string{""}},
		{"int", of(`5`, entry("m", apply, "")), nil},
		{"S", of(`[]`), nil},
	} {
		if l, e := checkFree(t, example(), c.typ, c.o); e != api.OK || !same(l, set(c.free...)) {
			t.Errorf("P15.5: the case %d: %s, %d", i, tell(l), e)
		}
	}
}

// A value that lies within itself is none, but the calls end.
func TestEndless(t *testing.T) {
	v := list(null)
	v.List[0] = v
	o := api.Object{Value: v}
	if e := Check(example(), "Tree", o); e != api.ErrDeep {
		t.Errorf("P15.1: %d", e)
	}
	if b, e := Encode(o); e != api.ErrDeep || b != nil {
		t.Errorf("P15.2: %d", e)
	}
	o = api.Object{Entries: []api.Entry{{Manager: "m", Way: apply, Fields: []api.Path{{item(v)}}}}}
	if b, e := Encode(o); e != api.ErrPath || b != nil {
		t.Errorf("P15.2: %d", e)
	}
}
