package record

import (
	"bytes"
	"math/rand"
	"slices"
	"sort"
	"strings"
	"testing"

	"freehold/api"
	"freehold/json"
	"freehold/managers"
	"freehold/pathset"
	"freehold/schema"
	"freehold/validate"
)

// must is an answer of a call that may not fail.
func must[T any](t *testing.T, what string) func(x T, e api.Errno) T {
	return func(x T, e api.Errno) T {
		t.Helper()
		if e != api.OK {
			t.Fatalf("%s: %d", what, e)
		}
		return x
	}
}

// checkBack holds that an object is what it was behind Encode and Decode, and so are its bytes.
func checkBack(t *testing.T, o api.Object) []byte {
	t.Helper()
	b := must[[]byte](t, "P15.2")(checkEncode(t, o))
	back := must[api.Object](t, "P15.3")(checkDecode(t, b))
	if !same(back, o) || !bytes.Equal(must[[]byte](t, "P15.6")(Encode(back)), b) {
		t.Fatalf("P15.6: %s, there and back: %s", tell(o), tell(back))
	}
	return b
}

// checkWhose holds P15.7 of an object, if it is sound.
func checkWhose(t *testing.T, s api.Schema, typ string, o api.Object) api.Errno {
	t.Helper()
	e := checkCheck(t, s, typ, o)
	free, f := checkFree(t, s, typ, o)
	if e != f {
		t.Fatalf("P15.5: %s: Check %d, Free %d", tell(o), e, f)
	}
	if e != api.OK {
		return e
	}
	if e := pathset.Check(free); e != api.OK {
		t.Fatalf("P15.5: %s is no set: %d", tell(free), e)
	}
	all, isFree := gathered(s, typ, o.Value), among(free)
	for _, p := range all {
		if owned := len(checkOwners(t, o, p)) > 0; owned == isFree(p) {
			t.Fatalf("P15.7: of %s the leaf %s has owners: %v, and is free: %v", tell(o), tell(p), owned, isFree(p))
		}
	}
	for _, x := range o.Entries {
		for _, p := range x.Fields {
			one := api.Entry{Manager: x.Manager, Way: x.Way, Fields: []api.Path{p}}
			told := slices.ContainsFunc(Owners(o, p), func(y api.Entry) bool { return same(one, y) })
			if _, leaf := all[pathBytes(p)]; !leaf || !told {
				t.Fatalf("P15.7: of %s the path %s is a leaf: %v, and its owner is told: %v", tell(o), tell(p), leaf, told)
			}
		}
	}
	return api.OK
}

// checkUnlike holds that of objects' bytes none begins another one's: sorted, one that did would stand right ahead of one that it begins.
func checkUnlike(t *testing.T, texts []string) {
	t.Helper()
	sort.Strings(texts)
	for i := 1; i < len(texts); i++ {
		if strings.HasPrefix(texts[i], texts[i-1]) {
			t.Fatalf("P15.6: %s begins %s", texts[i-1], texts[i])
		}
	}
}

// subsets is every choice of some paths.
func subsets(l []api.Path) [][]api.Path {
	var sets [][]api.Path
	for bits := range 1 << len(l) {
		var s []api.Path
		for i, p := range l {
			if bits>>i&1 == 1 {
				s = append(s, p)
			}
		}
		sets = append(sets, s)
	}
	return sets
}

// held is entries of those that have some paths.
func held(l ...api.Entry) []api.Entry {
	return slices.DeleteFunc(l, func(x api.Entry) bool { return len(x.Fields) == 0 })
}

// Every owner of leaves that lie above and below each other, of what is no leaf besides.
func TestEveryOwner(t *testing.T) {
	var texts []string
	seen := map[api.Errno]int{}
	for _, c := range []struct {
		typ, v string
		paths  []string
	}{
		{"T", `{"a":1,"l":[{"id":1,"x":"q"},{"id":2,"x":""}]}`, []string{".a", ".l[id=1]", ".l[id=1].x", ".l[id=2]", ".l[id=2].x"}},
		{"N", `{"n":[{"b":false,"id":1,"n":[{"b":false,"id":2,"s":["p"]},{"b":true,"id":2}]}]}`, []string{".n[b=false,id=1]", ".n[b=false,id=1].n[b=false,id=2]", `.n[b=false,id=1].n[b=false,id=2].s[="p"]`, ".n[b=false,id=1].n[b=true,id=2]"}},
		{"T", `{"a":1,"l":[{"id":1}],"w":[1]}`, []string{"", ".a", ".l[id=1]", ".l[id=1].id", ".w"}},
		{"T", `{"s":["p"]}`, []string{".s", `.s[="p"]`, `.s[="q"]`}},
		{"L", `[{"id":1,"x":""}]`, []string{"", "[id=1]", "[id=1].x"}},
		{"W", `[1]`, []string{"", "[=1]"}},
	} {
		for i, m := range subsets(set(c.paths...)) {
			for k, n := range subsets(set(c.paths...)) {
				for turn, l := range [][]api.Entry{
					held(api.Entry{Manager: "m", Way: apply, Fields: m}, api.Entry{Manager: "n", Way: update, Fields: n}),
					held(api.Entry{Manager: "m", Way: update, Fields: m}, api.Entry{Manager: "n", Way: apply, Fields: n}),
					held(api.Entry{Manager: "o", Way: apply, Fields: m}, api.Entry{Manager: "o", Way: update, Fields: n}),
				} {
					o := api.Object{Value: read(c.v), Entries: l}
					seen[checkWhose(t, example(), c.typ, o)]++
					if managers.Check(l) == api.OK && (turn != 2 && i > 0 && k > 0) {
						texts = append(texts, string(checkBack(t, o)))
					}
				}
			}
		}
	}
	if seen[api.OK] < 500 || seen[api.ErrRecord] < 500 || seen[api.ErrEntries] < 500 || len(seen) != 3 {
		t.Errorf("few of one sort: %v", seen)
	}
	checkUnlike(t, texts)
}

// Objects with unlike values, of every kind, with and without owners: their bytes are unlike.
func TestUnlike(t *testing.T) {
	var texts []string
	for _, v := range []string{"null", "false", "true", "0", "1", "10", "-1", "9223372036854775807", "-9223372036854775808", `""`, `"a"`, `"ab"`, `"\u0000"`, `"\""`, `"\\"`, `"]}"`, "[]", "[[]]", "[[],[]]", "[0]", "[0,1]", "{}", `{"":{}}`, `{"a":[]}`, `{"a":{}}`, `{"a":0}`, `{"a":0,"b":0}`, `{"b":0}`, `{"owners":[],"value":1}`} {
		for _, l := range [][]api.Entry{nil, {entry("m", apply, "")}, {entry("m", update, "")}, {entry("m", apply, ".a")}, {entry("m", apply, "", ".a")}, {entry("m", apply, ".a", ".b")}, {entry("m", apply, ".a.b")}, {entry("m", apply, ".a", ".a.b")}, {entry("m", apply, ".a"), entry("m", update, ".b")}, {entry("m", apply, ".a"), entry("n", apply, ".a")}, {entry("n", apply, ".a")}, {entry("m", apply, "[=1]")}, {entry("m", apply, `[="1"]`)}, {entry("m", apply, `[a=1]`)}} {
			texts = append(texts, string(checkBack(t, api.Object{Value: read(v), Entries: l})))
		}
	}
	checkUnlike(t, texts)
}

// Each row of bytes near that of an object: cut off, with a byte less, more, or another one.
func TestNearBytes(t *testing.T) {
	b := checkBack(t, of(`{"a":[1,"\u0001é",null,true]}`, entry("a", apply, ".a", `.s[="p"]`), entry("b", update, "", ".l[id=2]", ".l[id=2].x")))
	fine := 0
	ask := func(x []byte) {
		o, e := checkDecode(t, x)
		if e == api.OK {
			fine++
			if y := must[[]byte](t, "P15.6")(Encode(o)); !bytes.Equal(x, y) {
				t.Fatalf("P15.6: %s is read, and written %s", x, y)
			}
		}
	}
	for i := range b {
		if o, e := checkDecode(t, b[:i]); e != api.ErrRecord || !same(o, api.Object{}) {
			t.Errorf("P15.6: the beginning %s: %d", b[:i], e)
		}
		ask(slices.Delete(slices.Clone(b), i, i+1))
		for _, c := range []byte(" \t\n0123b{}[]\",:.\\=uxé\x00\xff") {
			ask(slices.Insert(slices.Clone(b), i, c))
			ask(slices.Replace(slices.Clone(b), i, i+1, c))
		}
	}
	if fine < 100 {
		t.Errorf("few are objects': %d", fine)
	}
}

// Picked objects of picked types, sound ones and others.
func TestManyObjects(t *testing.T) {
	r := rand.New(rand.NewSource(151))
	var free, owned, below int
	var texts []string
	for range 150 {
		s := pickSchema(r)
		if e := schema.Check(s); e != api.OK {
			t.Fatalf("a picked schema: %d", e)
		}
		for range 20 {
			typ, o := pickObject(r, s)
			if e := checkWhose(t, s, typ, o); e != api.OK {
				t.Fatalf("P15.1: %+v, %s: %s: %d", s, typ, tell(o), e)
			}
			texts = append(texts, string(checkBack(t, o)))
			l, _ := Free(s, typ, o)
			all, _ := managers.All(o.Entries)
			free, owned = free+len(l), owned+len(all)
			for _, p := range all {
				below += len(lacking(p, func(api.Path) bool { return false }))
			}
		}
	}
	if free < 2000 || owned < 2000 || below < 1000 {
		t.Errorf("few of one sort: %d, %d, %d", free, owned, below)
	}
	sort.Strings(texts)
	checkUnlike(t, slices.Compact(texts))
}

// Objects that are spoilt: the errors and their order.
func TestManyFaults(t *testing.T) {
	r, seen, coded := rand.New(rand.NewSource(152)), map[api.Errno]int{}, map[api.Errno]int{}
	for range 200 {
		s := pickSchema(r)
		for range 25 {
			typ, o := pickObject(r, s)
			o = spoilObject(r, o)
			if r.Intn(40) == 0 {
				typ = "no such type"
			}
			seen[checkWhose(t, s, typ, o)]++
			b, e := checkEncode(t, o)
			coded[e]++
			if e == api.OK {
				checkDecode(t, b)
			}
			for _, x := range o.Entries {
				for _, p := range x.Fields {
					checkOwners(t, o, p)
				}
			}
		}
	}
	for _, e := range []api.Errno{api.OK, api.ErrSchemaRef, api.ErrName, api.ErrEntries, api.ErrPath, api.ErrValue, api.ErrShape, api.ErrNull, api.ErrLeaf, api.ErrRecord} {
		if seen[e] < 25 {
			t.Errorf("few of one sort: %v", seen)
		}
	}
	for _, e := range []api.Errno{api.OK, api.ErrValue, api.ErrName, api.ErrEntries, api.ErrPath} {
		if coded[e] < 25 {
			t.Errorf("few of one sort: %v", coded)
		}
	}
}

// Texts of values that have much in common with a record's.
func TestSpoiltTexts(t *testing.T) {
	r, seen := rand.New(rand.NewSource(153)), map[api.Errno]int{}
	s := pickSchema(r)
	for range 3000 {
		_, o := pickObject(r, s)
		v, _, _ := json.Parse(must[[]byte](t, "P15.2")(Encode(o)), api.DeepRecord)
		b, e := json.Print(spoil(r, v), api.DeepRecord)
		if e != api.OK {
			continue
		}
		o, e = checkDecode(t, b)
		seen[e]++
		if e == api.OK {
			checkBack(t, o)
		}
	}
	if seen[api.OK] < 300 || seen[api.ErrRecord] < 1000 {
		t.Errorf("few of one sort: %v", seen)
	}
}

// answers is what all calls answer to an object, a path and bytes.
type answers struct {
	Encode []byte
	Decode api.Object
	Owners []api.Entry
	Free   []api.Path
}

func ask(s api.Schema, typ string, o api.Object, p api.Path, b []byte) answers {
	var x answers
	Check(s, typ, o)
	x.Encode, _ = Encode(o)
	x.Decode, _ = Decode(b)
	x.Owners = Owners(o, p)
	x.Free, _ = Free(s, typ, o)
	return x
}

// Whatever a call is given, spare room included, stays; whatever it answers is memory of its own.
func TestMemory(t *testing.T) {
	r, fine := rand.New(rand.NewSource(154)), 0
	for range 900 {
		s := pickSchema(r)
		typ, o := pickObject(r, s)
		b := must[[]byte](t, "P15.2")(Encode(o))
		p := pickOf(r, append(rising(gathered(s, typ, o.Value)), nil)...)
		if r.Intn(8) == 0 {
			o = spoilObject(r, o)
		}
		s, o, p, b = roomy(s), roomy(o), roomy(p), roomy(b)
		given := func() string { return whole(s) + whole(o) + whole(p) + whole(b) }
		was := given()
		one, two := ask(s, typ, o, p, b), ask(s, typ, o, p, b)
		if given() != was {
			t.Fatalf("P15.8: %s: a call changed what it was given: %s", typ, tell(o))
		}
		checkApart(t, "the answers", slices.Concat(rooms(s), rooms(o), rooms(p), rooms(b), rooms(one), rooms(two)))
		scribble(one)
		if three := ask(s, typ, o, p, b); !same(three, two) {
			t.Fatal("P15.8: what was written into an answer is seen in the next")
		}
		kept := roomy(two)
		for _, x := range []any{s, o, p, b} {
			scribble(x)
		}
		if !same(two, kept) {
			t.Fatal("P15.8: what was handed in is kept")
		}
		if len(two.Encode) > 0 && len(two.Decode.Entries) > 1 && len(two.Owners) > 0 && len(two.Free) > 0 {
			fine++
		}
	}
	if fine < 30 {
		t.Errorf("few have answers that tell something: %d", fine)
	}
}

// An object of many elements, each with much below it, and many who own them; more than a record has.
func TestLarge(t *testing.T) {
	var l []api.Value
	for i := range 5000 {
		l = append(l, object(at("id", num(i)), at("x", text("q"))))
	}
	o := api.Object{Value: object(at("l", list(l...)))}
	if !validate.IsNormal(example(), "T", o.Value) {
		t.Fatal("P8.3: a large value is not normal")
	}
	all := rising(gathered(example(), "T", o.Value))
	for i := range 40 {
		x := api.Entry{Manager: string(rune('A' + i)), Way: 1 + i%2}
		for k := range 5000 {
			if k%(i+2) > 0 {
				x.Fields = append(x.Fields, all[2*k], all[2*k+1])
			}
		}
		o.Entries = append(o.Entries, x)
	}
	if e := checkCheck(t, example(), "T", o); e != api.OK {
		t.Errorf("P15.1: a large object: %d", e)
	}
	if free := must[[]api.Path](t, "P15.5")(Free(example(), "T", o)); len(free) != 2 {
		t.Errorf("P15.5: %d are free", len(free))
	}
	if b, e := Encode(o); e != api.ErrObject || b != nil {
		t.Errorf("P15.2: a large object: %d", e)
	}
	last := &o.Entries[38]
	last.Fields = slices.Delete(slices.Clone(last.Fields), 9000, 9001)
	if e := checkCheck(t, example(), "T", o); e != api.ErrRecord {
		t.Errorf("P15.1: a large object without one element: %d", e)
	}
}
