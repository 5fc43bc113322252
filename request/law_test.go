package request

import (
	"math/rand"
	"slices"
	"sort"
	"strings"
	"testing"

	"freehold/api"
	"freehold/json"
	"freehold/managers"
	"freehold/value"
)

// members is a text of the members that some bits choose, and one member more.
func members(l []string, bits int, more string) string {
	some := []string{more}
	for i, s := range l {
		if bits>>i&1 == 1 {
			some = append(some, s)
		}
	}
	return "{" + strings.Join(some, ",") + "}"
}

// Every choice of members, with every op and with what is none.
func TestEveryMember(t *testing.T) {
	l := []string{`"after":7`, `"body":{"a":1}`, `"continue":"c"`, `"force":true`, `"kind":"app"`, `"limit":5`, `"manager":"m"`, `"name":"x"`, `"revision":3`, `"selector":"s"`}
	seen := map[string]int{}
	var texts []string
	for _, op := range append(opWords[1:], "fly", "") {
		for bits := range 1 << len(l) {
			if r, _, e := checkParse(t, []byte(members(l, bits, `"op":"`+op+`"`))); e == api.OK {
				seen[op]++
				b, _ := Print(r)
				texts = append(texts, string(b))
			}
		}
	}
	for op, n := range map[string]int{"get": 1, "list": 8, "events": 4, "create": 1, "apply": 4, "update": 2, "merge": 2, "steps": 2, "strategic": 2, "delete": 2, "fly": 0, "": 0} {
		if seen[op] != n {
			t.Errorf("P22.1: %d choices for %q, want %d", seen[op], op, n)
		}
	}
	checkUnlike(t, texts)
}

// checkUnlike holds that of some texts no two are the same.
func checkUnlike(t *testing.T, texts []string) {
	t.Helper()
	sort.Strings(texts)
	for i := 1; i < len(texts); i++ {
		if texts[i] == texts[i-1] {
			t.Fatalf("P22.4: two have the text %s", texts[i])
		}
	}
}

// Every choice of fields, with every number of an op and numbers beside them.
func TestEveryField(t *testing.T) {
	all := api.Request{After: 7, Body: read(`{"a":1}`), Continue: "c", Force: true, Kind: "app", Limit: 5, Manager: "m", Name: "x", Rev: 3, Selector: "s"}
	fine := 0
	for op := -2; op < 13; op++ {
		for bits := range 1 << len(requestKeys) {
			r := api.Request{Op: op}
			for i, key := range requestKeys {
				if bits>>i&1 == 1 {
					fieldOf(&r, key).Set(fieldOf(&all, key))
				}
			}
			if _, e := checkPrint(t, r); e == api.OK {
				fine++
			}
		}
	}
	if want := 1 + 8 + 8 + 2 + 8 + 4*4 + 2; fine != want { // a body that is null, and after 0, need not be told
		t.Errorf("P22.2: %d are requests, want %d", fine, want)
	}
}

// Every choice of what an answer tells, with every class and op and numbers beside them.
func TestEveryAnswer(t *testing.T) {
	o := of("1", entry("m", api.ByApply, ".a"))
	fine := map[int]int{}
	for class := -1; class < 14; class++ {
		for op := -1; op < 12; op++ {
			for bits := range 1 << 10 {
				is := func(i int) bool { return bits>>i&1 == 1 }
				if op > 3 && op < 10 && bits&(bits-1) != 0 || op < 0 && bits > 2 { // there is nothing of the kind: few are enough
					continue
				}
				a := api.Answer{Class: class, Op: op, Rev: 3, There: is(0), Where: "w", Next: "n", Floor: 2, Object: o, Conflicts: names(2), Items: []api.Found{{}}, Events: []api.Seen{{Kind: 1}}}
				for i, key := range answerKeys {
					if !is(i + 1) {
						a = without(a, key)
					}
				}
				if _, e := checkAnswer(t, a); e == api.OK {
					fine[class]++
				}
			}
		}
	}
	for class := -1; class < 14; class++ {
		want := map[int]int{1: 8 + 2 + 8 + 8, 5: 2, 9: 2, 10: 2, -1: 0, 0: 0, 13: 0}
		n, is := want[class]
		if !is {
			n = 1
		}
		if fine[class] != n {
			t.Errorf("P22.3: %d answers of class %d, want %d", fine[class], class, n)
		}
	}
}

// Every choice of an answer's members, with every class and what is none.
func TestEveryText(t *testing.T) {
	l := []string{`"conflicts":[{"fields":{".a":{}},"manager":"m","way":"apply"}]`, `"events":[]`, `"floor":2`, `"items":[]`, `"next":"n"`, `"owners":[]`, `"revision":3`, `"value":1`, `"where":"w"`}
	fine := 0
	for _, class := range append(classWords[1:], "-", "") {
		for bits := range 1 << len(l) {
			if _, e := checkRead(t, []byte(members(l, bits, `"class":"`+class+`"`))); e == api.OK {
				fine++
			}
		}
	}
	if fine != 15 {
		t.Errorf("P22.3: %d texts are answers", fine)
	}
}

// near asks each text near one: cut off, with a byte less, more, or another one.
func near(b []byte, ask func(b []byte)) {
	for i := range b {
		ask(b[:i])
		ask(slices.Delete(slices.Clone(b), i, i+1))
		for _, c := range []byte(" \n0-19azA_./{}[]\",:\\u\x00\x7f\xff") {
			ask(slices.Insert(slices.Clone(b), i, c))
			ask(slices.Replace(slices.Clone(b), i, i+1, c))
		}
	}
}

func TestNearRequest(t *testing.T) {
	seen := map[int]int{}
	for _, s := range []string{`{"op":"get","kind":"app","name":"x"}`, `{"op":"list","kind":"a","selector":"s","limit":50,"continue":"c"}`, `{"op":"events","after":10,"kind":"a","limit":1}`, `{"op":"apply","kind":"a","name":"x","manager":"m","body":{"a":1},"force":false,"revision":2}`, `{"op":"delete","kind":"a-","name":"0.","revision":9007199254740991}`} {
		near([]byte(s), func(b []byte) {
			_, class, _ := checkParse(t, b)
			seen[class]++
		})
	}
	if seen[1] < 900 || seen[2] < 1000 || seen[4] < 1000 || len(seen) != 3 {
		t.Errorf("few of one sort: %v", seen)
	}
}

func TestNearAnswer(t *testing.T) {
	fine := 0
	for _, a := range []api.Answer{{Class: 7}, {Class: 9, Rev: 10}, {Class: 5, Where: "/a"}, {Class: 1, Op: 10, Rev: 7},
		{Class: 1, Op: 1, There: true, Rev: 3, Object: of(`{"a":"\u00e9"}`, entry("m", 1, ".a"), entry("n", 2, ".a", ".b[id=1]"))},
		{Class: 1, Op: 2, Rev: 3, Next: "n", Items: []api.Found{{Rev: 1, Name: "x", Object: of("[]", entry("m", 1, ""))}, {Rev: 2, Name: "y"}}},
		{Class: 1, Op: 3, Rev: 3, Floor: 1, Events: []api.Seen{{Rev: 1, Kind: 1, Name: "a/x"}, {Rev: 2, Kind: 3, Name: "a/x", Object: of("null", entry("m", 2, ".a"))}}},
		{Class: 10, Rev: 3, Conflicts: []api.Conflict{conflict("m", 1, ".a"), conflict("n", 2, ".a"), conflict("m", 1, ".a.b")}},
	} {
		b, e := checkAnswer(t, a)
		if e != api.OK {
			t.Fatalf("P22.3: %s: %d", cut(a), e)
		}
		near(b, func(b []byte) {
			if _, e := checkRead(t, b); e == api.OK {
				fine++
			}
		})
	}
	if fine < 1000 {
		t.Errorf("few are answers: %d", fine)
	}
}

// shuffled is the text of a request in some other way of writing: its members in another order, blanks, letters as numbers.
func shuffled(r *rand.Rand, b []byte) []byte {
	v := read(string(b))
	r.Shuffle(len(v.Map), func(i, k int) { v.Map[i], v.Map[k] = v.Map[k], v.Map[i] })
	blank := func() string { return pickOf(r, "", "", " ", "\n\t") }
	var l []string
	for _, m := range v.Map {
		x, _ := json.Print(m.Val, 40)
		key := strings.Replace(m.Key, "e", pickOf(r, "e", `\u0065`), 1)
		l = append(l, blank()+`"`+key+`"`+blank()+":"+blank()+string(x)+blank())
	}
	return []byte(blank() + "{" + strings.Join(l, ",") + "}" + blank())
}

// Picked requests: there and back, however they are written; no two have one text.
func TestManyRequests(t *testing.T) {
	r, texts := rand.New(rand.NewSource(221)), map[string]api.Request{}
	ops := map[int]int{}
	for range 20000 {
		x := pickRequest(r)
		b, e := checkPrint(t, x)
		if e != api.OK {
			t.Fatalf("P22.2: %s: %d", cut(x), e)
		}
		if y, is := texts[string(b)]; is && !same(x, y) {
			t.Fatalf("P22.4: %s and %s are printed as %s", cut(x), cut(y), cut(b))
		}
		texts[string(b)] = x
		ops[x.Op]++
		if y, _, e := checkParse(t, shuffled(r, b)); e != api.OK || !same(x, y) {
			t.Fatalf("P22.1: %s in another way of writing: %s, %d", cut(b), cut(y), e)
		}
	}
	if len(ops) != 10 || len(texts) < 12000 {
		t.Errorf("few of one sort: %v, %d texts", ops, len(texts))
	}
}

// Requests of which something is changed, and texts of requests of which something is.
func TestSpoiltRequests(t *testing.T) {
	r, printed, parsed := rand.New(rand.NewSource(222)), map[api.Errno]int{}, map[api.Errno]int{}
	for range 20000 {
		x := pickRequest(r)
		_, e := checkPrint(t, spoil(r, x))
		printed[e]++
		b, _ := Print(x)
		v := read(string(b))
		m := &v.Map[r.Intn(len(v.Map))]
		m.Val = pickOf(r, api.Value{}, truthOf(r), num(pickRev(r)), num(-1), num(501), str(pickText(r)), str(pickName(r)), str(pickOf(r, opWords...)), list(m.Val), object(*m))
		if b, e := json.Print(v, 40); e == api.OK {
			_, _, e = checkParse(t, b)
			parsed[e]++
		}
	}
	if printed[api.OK] < 1000 || printed[api.ErrRequest] < 1000 || parsed[api.OK] < 1000 || parsed[api.ErrRequest] < 1000 {
		t.Errorf("few of one sort: %v, %v", printed, parsed)
	}
}

func truthOf(r *rand.Rand) api.Value { return yes(r.Intn(2) == 0) }

// Picked answers: there and back; no two have one text.
func TestManyAnswers(t *testing.T) {
	r, texts := rand.New(rand.NewSource(223)), map[string]api.Answer{}
	var told, clashes int
	for range 6000 {
		x := pickAnswer(r)
		b, e := checkAnswer(t, x)
		if e != api.OK {
			t.Fatalf("P22.3: %s: %d", cut(x), e)
		}
		if y, is := texts[string(b)]; is && !same(x, y) {
			t.Fatalf("P22.4: %s and %s are written as %s", cut(x), cut(y), cut(b))
		}
		texts[string(b)] = x
		told += len(x.Items) + len(x.Events)
		clashes += len(grouped(x.Conflicts))
		if y, e := checkRead(t, shuffled(r, b)); e == api.OK && !same(x, y) {
			t.Fatalf("P22.3: %s in another way of writing: %s", cut(b), cut(y))
		}
	}
	if told < 2000 || clashes < 1500 || len(texts) < 3000 {
		t.Errorf("few of one sort: %d, %d, %d", told, clashes, len(texts))
	}
}

// Answers of which something is changed, and texts of answers of which something is.
func TestSpoiltAnswers(t *testing.T) {
	r, written, readAs := rand.New(rand.NewSource(224)), map[api.Errno]int{}, map[api.Errno]int{}
	for range 8000 {
		x := pickAnswer(r)
		_, e := checkAnswer(t, spoil(r, x))
		written[e]++
		b, _ := Answer(x)
		b, e = json.Print(spoilValue(r, read(string(b))), 40)
		if e == api.OK {
			_, e = checkRead(t, b)
			readAs[e]++
		}
	}
	if written[api.OK] < 1000 || written[api.ErrRequest] < 1000 || readAs[api.OK] < 500 || readAs[api.ErrRequest] < 1000 {
		t.Errorf("few of one sort: %v, %v", written, readAs)
	}
}

// spoilValue is a value of which something is another one, or gone.
func spoilValue(r *rand.Rand, v api.Value) api.Value {
	n := len(v.List) + len(v.Map)
	if n == 0 || r.Intn(5) == 0 {
		return pickOf(r, api.Value{}, yes(true), num(0), num(7), num(-1), num(1<<53), str(""), str("ok"), str("update"), str("created"), list(), object(), list(v), object(at(".a", v)))
	}
	v = roomy(v)
	i := r.Intn(n)
	switch {
	case r.Intn(8) == 0 && i < len(v.List):
		v.List = slices.Delete(v.List, i, i+1)
	case i < len(v.List):
		v.List[i] = spoilValue(r, v.List[i])
	case r.Intn(8) == 0:
		v.Map = slices.Delete(v.Map, i, i+1)
	default:
		v.Map[i].Val = spoilValue(r, v.Map[i].Val)
	}
	return v
}

// Every short row of conflicts.
func TestEveryConflict(t *testing.T) {
	var some []api.Conflict
	for _, manager := range []string{"", "a", "b"} {
		for by := range 4 {
			for _, p := range []string{"", ".a", ".a.b", ".b"} {
				if manager != "" && by%3 != 0 || p == ".a" {
					some = append(some, conflict(manager, by, p))
				}
			}
		}
	}
	some = append(some, api.Conflict{Manager: "a", Way: 1, Path: api.Path{{Kind: 9}}})
	fine := 0
	ask := func(l ...api.Conflict) {
		if _, e := checkAnswer(t, api.Answer{Class: 10, Rev: 1, Conflicts: l}); e == api.OK {
			fine++
		}
	}
	for _, x := range some {
		ask(x)
		for _, y := range some {
			ask(x, y)
			for _, z := range some {
				ask(x, y, z)
			}
		}
	}
	if fine < 300 {
		t.Errorf("few may be: %d", fine)
	}
}

// replies is what all calls answer to a request, bytes, an answer and its bytes.
type replies struct {
	Parse  api.Request
	Print  []byte
	Answer []byte
	Read   api.Answer
}

func ask(x api.Request, b []byte, a api.Answer, c []byte) replies {
	var l replies
	l.Parse, _, _ = Parse(b)
	l.Print, _ = Print(x)
	l.Answer, _ = Answer(a)
	l.Read, _ = ReadAnswer(c)
	return l
}

// Whatever a call is given, spare room included, stays; whatever it answers is memory of its own.
func TestMemory(t *testing.T) {
	r, fine := rand.New(rand.NewSource(225)), 0
	for range 4000 {
		x, a := pickRequest(r), pickAnswer(r)
		b, _ := Print(x)
		c, _ := Answer(a)
		if r.Intn(6) == 0 {
			x, a = spoil(r, x), spoil(r, a)
		}
		x, b, a, c = roomy(x), roomy(b), roomy(a), roomy(c)
		given := func() string { return whole(x) + whole(b) + whole(a) + whole(c) }
		was := given()
		one, two := ask(x, b, a, c), ask(x, b, a, c)
		if given() != was {
			t.Fatalf("P22.5: a call changed what it was given: %s, %s", cut(x), cut(a))
		}
		checkApart(t, rooms(x, b, a, c, one, two))
		kept := roomy(two)
		scribble(one)
		if three := ask(x, b, a, c); !same(three, two) {
			t.Fatal("P22.5: what was written into an answer is seen in the next")
		}
		for _, x := range []any{x, b, a, c} {
			scribble(x)
		}
		if !same(two, kept) {
			t.Fatal("P22.5: what was handed in is kept")
		}
		if len(two.Parse.Body.Map) > 0 && len(two.Read.Conflicts)+len(two.Read.Items)+len(two.Read.Events)+len(two.Read.Object.Entries) > 1 {
			fine++
		}
	}
	if fine < 200 {
		t.Errorf("few have answers that tell something: %d", fine)
	}
}

// A value that lies within itself is none, but the calls end.
func TestEndless(t *testing.T) {
	v := list(num(1))
	v.List[0] = v
	x := api.Entry{Manager: "m", Way: 1, Fields: []api.Path{{{Kind: api.ElemItem, Item: v}}}}
	for i, a := range []api.Answer{
		{Class: 1, Op: 1, There: true, Object: api.Object{Value: v}},
		{Class: 1, Op: 1, There: true, Object: api.Object{Entries: []api.Entry{x}}},
		{Class: 1, Op: 10, Object: api.Object{Value: v}},
		{Class: 1, Op: 2, Items: []api.Found{{Object: api.Object{Value: v}}}},
		{Class: 10, Conflicts: []api.Conflict{{Manager: "m", Way: 1, Path: x.Fields[0]}}},
	} {
		if b, e := Answer(a); e != api.ErrRequest || b != nil {
			t.Errorf("P22.3: the case %d: %s, %d", i, cut(b), e)
		}
	}
	for _, op := range []int{1, 5} {
		if b, e := Print(api.Request{Op: op, Kind: "a", Name: "x", Manager: "m", Body: v}); e != api.ErrRequest || b != nil {
			t.Errorf("P22.2: %s, %d", cut(b), e)
		}
	}
}

// A page as full as one can be, and conflicts of many managers at many paths.
func TestLarge(t *testing.T) {
	page := api.Answer{Class: 1, Op: 2, Rev: 9007199254740991, Next: strings.Repeat("n", 500)}
	seen := api.Answer{Class: 1, Op: 3, Rev: 9007199254740991, Floor: 9007199254740990}
	for i := range api.MaxPage {
		o := api.Object{Value: str(strings.Repeat("v", 200)), Entries: names64(i)}
		page.Items = append(page.Items, api.Found{Rev: i, Name: strings.Repeat("z", 64), Object: o})
		seen.Events = append(seen.Events, api.Seen{Rev: i, Kind: 1 + i%3, Name: strings.Repeat("z", 129), Object: o})
	}
	clash := api.Answer{Class: 10, Rev: 1}
	for _, x := range wide(400, 3)[0].Fields {
		for _, c := range names(64) {
			c.Path = x
			clash.Conflicts = append(clash.Conflicts, c)
		}
	}
	for _, a := range []api.Answer{page, seen, clash} {
		if b, e := checkAnswer(t, a); e != api.OK || value.Nodes(read(string(b))) < 4000 {
			t.Errorf("P22.3: %d bytes, %d", len(b), e)
		}
	}
}

// names64 is entries of one manager or two.
func names64(i int) []api.Entry {
	l, _ := managers.With(nil, "ann", 1+i%2, wide(1+i%3, 3)[0].Fields)
	return l
}
