package server

import (
	"strconv"
	"strings"
	"testing"

	"freehold/api"
	"freehold/feed"
	"freehold/schema"
	"freehold/store"
)

func TestNew(t *testing.T) {
	for _, n := range []int{0, 1, 64} {
		if s, e := New(small(), n); s == nil || e != api.OK {
			t.Errorf("P23.1: %d retries: %d", n, e)
		}
	}
	for _, n := range []int{-1, 65, -1 << 63, 1<<63 - 1} {
		for _, sc := range []api.Schema{small(), {Roots: []api.Root{{Kind: "t", Type: "t"}}}} {
			if s, e := New(sc, n); s != nil || e != api.ErrArg {
				t.Errorf("P23.1: %d retries: %d", n, e)
			}
		}
	}
	if s, e := New(api.Schema{}, 0); s == nil || e != api.OK {
		t.Errorf("P23.1: without kinds: %d", e)
	}
	wrong := []api.Schema{
		{Roots: []api.Root{{Kind: "t", Type: "t"}}},
		{Roots: []api.Root{{Kind: "t", Type: "int"}}},
		{Types: make([]api.Type, 257)},
		{Types: []api.Type{{Name: "1"}}},
		{Types: []api.Type{{Name: "t"}}},
		{Types: []api.Type{{Name: "A", Kind: api.TypeName, Elem: "A"}}},
	}
	for i, sc := range wrong {
		if s, e := New(sc, 1); s != nil || e == api.OK || e != schema.Check(sc) {
			t.Errorf("P23.1: the schema %d: %d, want %d", i, e, schema.Check(sc))
		}
	}
}

func TestNil(t *testing.T) {
	var s *Server
	st := laid(0)
	if f, e := s.Begin([]byte("{}")); f != nil || e != api.ErrNil {
		t.Errorf("P23.2: no server: %d", e)
	}
	for _, st := range []*store.Store{nil, st} {
		if b, e := s.Do(st, []byte("{}")); b != nil || e != api.ErrNil {
			t.Errorf("P23.6: no server: %d", e)
		}
	}
	s = made(small(), 1)
	if b, e := s.Do(nil, []byte("{}")); b != nil || e != api.ErrNil {
		t.Errorf("P23.6: no store: %d", e)
	}
	var none *Flight
	for i, f := range []*Flight{none, {}} {
		for _, st := range []*store.Store{nil, st} {
			if done, e := f.Step(st); done || e != api.ErrNil {
				t.Errorf("P23.4: no flight, %d: %v, %d", i, done, e)
			}
		}
		if b, there := f.Answer(); b != nil || there || f.Next() != 0 || f.Lost() != 0 {
			t.Errorf("P23.5: no flight, %d: %s, %v, %d, %d", i, b, there, f.Next(), f.Lost())
		}
	}
	for _, text := range []string{"abc", askFor("get", "t", "x")} {
		f, _ := s.Begin([]byte(text))
		next := f.Next()
		if done, e := f.Step(nil); done || e != api.ErrNil || f.Next() != next {
			t.Errorf("P23.4: no store: %v, %d", done, e)
		}
	}
	if st.Rev() != 0 {
		t.Error("P23.4: the store was written")
	}
}

// A server that no call made is one without kinds.
func TestZero(t *testing.T) {
	s := &Server{}
	for text, want := range map[string]string{
		askFor("get", "t", "x"):     plain("badrequest"),
		ask("events", "after", "0"): `{"class":"ok","events":[],"floor":0,"revision":0}`,
	} {
		if b, e := s.Do(&store.Store{}, []byte(text)); string(b) != want || e != api.OK {
			t.Errorf("%s: %s, %d", text, b, e)
		}
	}
}

// step is an access of a flight: which one it is to be, and the answer behind it.
type step struct {
	number int
	answer string
}

// walk steps a flight over a store, access by access.
func walk(t *testing.T, s *Server, st *store.Store, text string, l ...step) {
	t.Helper()
	f, e := s.Begin([]byte(text))
	if e != api.OK {
		t.Fatalf("P23.2: %d: %s", e, text)
	}
	for i, x := range l {
		if f.Next() != x.number {
			t.Fatalf("P23.3: the access %d is %d, want %d: %s", i, f.Next(), x.number, text)
		}
		if x.number != 0 {
			if done, e := f.Step(st); done != (x.answer != "") || e != api.OK {
				t.Fatalf("P23.4: the access %d: %v, %d: %s", i, done, e, text)
			}
		}
		if b, there := f.Answer(); string(b) != x.answer || there != (x.answer != "") {
			t.Fatalf("P23.5: behind the access %d: %s, want %s: %s", i, b, x.answer, text)
		}
	}
	if f.Next() != 0 {
		t.Fatalf("P23.3: behind the answer: %d: %s", f.Next(), text)
	}
	if done, e := f.Step(st); done || e != api.ErrDone {
		t.Fatalf("P23.4: behind the answer: %v, %d: %s", done, e, text)
	}
}

func TestExamples(t *testing.T) {
	s, st := made(small(), 1), laid(0)
	one := `{"class":"ok","owners":[{"fields":{".a":{}},"manager":"m","way":"apply"}],"revision":1,"value":{"a":1}}`
	walk(t, s, st, askFor("get", "t", "x"), step{1, plain("notfound")})
	walk(t, s, st, askOf("create", "t", "x", "m", `{"a":"x"}`), step{0, `{"class":"violation","where":"/a"}`})
	walk(t, s, st, askOf("create", "u", "x", "m", `{"a":"x"}`), step{0, plain("badrequest")})
	walk(t, s, st, askFor("get", "u", "x"), step{0, plain("badrequest")})
	walk(t, s, st, askOf("apply", "t", "x", "m", `{"a":1}`), step{1, ""}, step{4, one})
	walk(t, s, st, askOf("apply", "t", "x", "m", `{"a":1}`), step{1, one})
	walk(t, s, st, askFor("get", "t", "x"), step{1, one})
	walk(t, s, st, askOf("update", "t", "x", "n", `{"a":1}`, "revision", "9"), step{1, `{"class":"stale","revision":1}`})
	walk(t, s, st, askOf("update", "t", "y", "n", `{"a":1}`, "revision", "9"), step{1, plain("notfound")})
	walk(t, s, st, askOf("apply", "t", "y", "n", `{"a":1}`, "revision", "9"), step{1, `{"class":"stale","revision":0}`})
	walk(t, s, st, askOf("apply", "t", "x", "n", `{"a":2}`), step{1, `{"class":"conflict","conflicts":[{"fields":{".a":{}},"manager":"m","way":"apply"}],"revision":1}`})
	if st.Rev() != 1 {
		t.Errorf("P23.7: the counter is %d", st.Rev())
	}
	walk(t, s, st, askOf("apply", "t", "x", "n", `{"a":2}`, "force", "true"), step{1, ""}, step{5, `{"class":"ok","owners":[{"fields":{".a":{}},"manager":"n","way":"apply"}],"revision":2,"value":{"a":2}}`})
	walk(t, s, st, askFor("delete", "t", "x"), step{1, ""}, step{6, `{"class":"ok","revision":3}`})
}

// Each op's way through its accesses, to each thing that can be there.
func TestWays(t *testing.T) {
	s := made(small(), 1)
	st := laid(0, "t/x", rec(`{"a":1}`, "m apply .a"), "t/bad", "nothing")
	own := func(manager, way string, rev, a int) string {
		return `{"class":"ok","owners":[{"fields":{".a":{}},"manager":"` + manager + `","way":"` + way + `"}],"revision":` + strconv.Itoa(rev) + `,"value":{"a":` + strconv.Itoa(a) + `}}`
	}
	none := func(rev int) string {
		return `{"class":"ok","owners":[],"revision":` + strconv.Itoa(rev) + `,"value":{}}`
	}
	for _, c := range []struct {
		text string
		way  []step
	}{
		{askOf("create", "t", "new", "n", `{"a":2}`), []step{{4, own("n", "update", 3, 2)}}},
		{askOf("create", "t", "new", "n", `{"a":null}`), []step{{4, none(3)}}},
		{askOf("create", "t", "x", "n", `{"a":2}`), []step{{4, plain("exists")}}},
		{askOf("create", "t", "bad", "n", `{"a":2}`), []step{{4, plain("exists")}}},
		{askOf("apply", "t", "new", "n", `{}`), []step{{1, ""}, {4, none(3)}}},
		{askOf("apply", "t", "x", "m", `{}`), []step{{1, ""}, {5, none(3)}}},
		{askOf("apply", "t", "x", "m", `{"a":1}`, "revision", "1"), []step{{1, own("m", "apply", 1, 1)}}},
		{askOf("apply", "t", "x", "m", `{"a":7}`, "revision", "1"), []step{{1, ""}, {5, own("m", "apply", 3, 7)}}},
		{askOf("apply", "t", "x", "m", `{"a":7}`, "revision", "2"), []step{{1, staleAt(1)}}},
		{askOf("apply", "t", "x", "n", `{"a":7}`, "revision", "2"), []step{{1, staleAt(1)}}},
		{askOf("apply", "t", "x", "n", `{"a":7}`, "force", "false"), []step{{1, `{"class":"conflict","conflicts":[{"fields":{".a":{}},"manager":"m","way":"apply"}],"revision":1}`}}},
		{askOf("apply", "t", "x", "n", `{"a":7}`, "force", "true", "revision", "1"), []step{{1, ""}, {5, own("n", "apply", 3, 7)}}},
		{askOf("update", "t", "x", "n", `{"a":7}`), []step{{1, ""}, {5, own("n", "update", 3, 7)}}},
		{askOf("update", "t", "x", "n", `{"a":7}`, "revision", "1"), []step{{1, ""}, {5, own("n", "update", 3, 7)}}},
		{askOf("update", "t", "x", "n", `{"a":1}`), []step{{1, own("m", "apply", 1, 1)}}},
		{askOf("update", "t", "x", "n", `{}`), []step{{1, ""}, {5, none(3)}}},
		{askOf("merge", "t", "x", "n", `{"a":2}`), []step{{1, ""}, {5, own("n", "update", 3, 2)}}},
		{askOf("merge", "t", "x", "n", `{"a":null}`), []step{{1, ""}, {5, none(3)}}},
		{askOf("merge", "t", "x", "n", `{}`), []step{{1, own("m", "apply", 1, 1)}}},
		{askOf("merge", "t", "x", "n", `{"a":"x"}`), []step{{1, violation("/a")}}},
		{askOf("merge", "t", "x", "n", `{"b":1}`), []step{{1, violation("/b")}}},
		{askOf("merge", "t", "x", "n", `{"b":null}`), []step{{1, own("m", "apply", 1, 1)}}},
		{askOf("merge", "t", "x", "n", `null`), []step{{1, violation("")}}},
		{askOf("merge", "t", "x", "n", `[]`), []step{{1, violation("")}}},
		{askOf("merge", "t", "x", "n", `{}`, "revision", "5"), []step{{1, staleAt(1)}}},
		{askOf("steps", "t", "x", "n", `[]`), []step{{1, own("m", "apply", 1, 1)}}},
		{askOf("steps", "t", "x", "n", `[{"op":"test","path":"/a","value":1},{"op":"replace","path":"/a","value":5}]`), []step{{1, ""}, {5, own("n", "update", 3, 5)}}},
		{askOf("steps", "t", "x", "n", `[{"op":"test","path":"/a","value":2}]`), []step{{1, plain("unfit")}}},
		{askOf("steps", "t", "x", "n", `[{"op":"remove","path":"/b"}]`), []step{{1, plain("unfit")}}},
		{askOf("steps", "t", "x", "n", `[{"op":"move","from":"/a","path":"/a/b"}]`), []step{{1, plain("unfit")}}},
		{askOf("steps", "t", "x", "n", `[{"op":"add","path":"/b","value":1}]`), []step{{1, violation("/b")}}},
		{askOf("steps", "t", "x", "n", `[{"op":"add","path":"","value":null}]`), []step{{1, violation("")}}},
		{askOf("strategic", "t", "x", "n", `{"a":3}`), []step{{1, ""}, {5, own("n", "update", 3, 3)}}},
		{askOf("strategic", "t", "x", "n", `{"$patch":"replace"}`), []step{{1, ""}, {5, none(3)}}},
		{askOf("strategic", "t", "x", "n", `{"$patch":"delete"}`), []step{{1, violation("")}}},
		{askOf("strategic", "t", "x", "n", `{"q":1}`), []step{{1, violation("/q")}}},
		{askOf("strategic", "t", "x", "n", `{"$patch":"merge","a":1}`), []step{{1, own("m", "apply", 1, 1)}}},
		{askFor("delete", "t", "x"), []step{{1, ""}, {6, `{"class":"ok","revision":3}`}}},
		{askFor("delete", "t", "x", "revision", "1"), []step{{1, ""}, {6, `{"class":"ok","revision":3}`}}},
		{askFor("delete", "t", "x", "revision", "2"), []step{{1, staleAt(1)}}},
		{askFor("delete", "t", "new"), []step{{1, plain("notfound")}}},
		{askFor("delete", "t", "new", "revision", "2"), []step{{1, plain("notfound")}}},
	} {
		mine := twin(st)
		walk(t, s, mine, c.text, c.way...)
		if rev := mine.Rev(); rev != 2 && len(c.way) == 1 && c.way[0].number != 4 || rev > 3 {
			t.Errorf("P23.7: the counter is %d: %s", rev, c.text)
		}
		holdAlone(t, s, st, c.text)
	}
	for _, op := range []string{"update", "merge", "steps", "strategic"} {
		body := "{}"
		if op == "steps" {
			body = "[]"
		}
		walk(t, s, twin(st), askOf(op, "t", "new", "n", body), step{1, plain("notfound")})
		walk(t, s, twin(st), askOf(op, "t", "new", "n", body, "revision", "1"), step{1, plain("notfound")})
		walk(t, s, twin(st), askOf(op, "t", "x", "n", body, "revision", "2"), step{1, staleAt(1)})
	}
	for _, text := range []string{
		askFor("get", "t", "bad"), askFor("delete", "t", "bad"), askFor("delete", "t", "bad", "revision", "1"), askFor("delete", "t", "bad", "revision", "2"),
		askOf("apply", "t", "bad", "n", "{}"), askOf("apply", "t", "bad", "n", "{}", "force", "true"), askOf("apply", "t", "bad", "n", "{}", "revision", "9"),
		askOf("update", "t", "bad", "n", "{}"), askOf("merge", "t", "bad", "n", "{}"), askOf("steps", "t", "bad", "n", "[]"), askOf("strategic", "t", "bad", "n", "{}", "revision", "9"),
	} {
		walk(t, s, twin(st), text, step{1, plain("unfit")})
	}
}

// What is there and is no sound record of its type.
func TestUnsound(t *testing.T) {
	s := made(rich(), 1)
	for _, data := range []string{
		"", "{}", "nothing", rec(`{"a":1}`) + " ", `{"owners":[], "value":{}}`, strings.Repeat(" ", 131072),
		rec(`{"b":1}`), rec(`{"a":"x"}`), rec(`{"a":null}`), rec(`{"c":"b"}`), rec(`5`), rec(`null`), rec(`[]`),
		rec(`{"s":["b","a"]}`), rec(`{"s":[]}`), rec(`{"m":{}}`), rec(`{"l":[{"x":"q"}]}`), rec(`{"l":[{"id":2},{"id":1}]}`),
		rec(`{"a":1}`, "m apply .m.k"), rec(`{"m":{"k":"v"}}`, "m apply .m"), rec(`{"l":[{"id":1,"x":"q"}]}`, "m apply .l[id=1].x"),
		rec(`{"a":1}`, "n apply .a", "m apply .a"), rec(`{"a":1}`, "m apply .a", "m update .a"), `{"owners":[{"fields":{},"manager":"m","way":"apply"}],"value":{"a":1}}`,
	} {
		st := laid(0, "t/x", data)
		for _, text := range []string{
			askFor("get", "t", "x"), askFor("delete", "t", "x", "revision", "1"), askFor("delete", "t", "x", "revision", "7"),
			askOf("apply", "t", "x", "m", "{}", "force", "true"), askOf("update", "t", "x", "m", "{}"), askOf("update", "t", "x", "m", "{}", "revision", "7"),
			askOf("merge", "t", "x", "m", "{}"), askOf("merge", "t", "x", "m", "null"), askOf("steps", "t", "x", "m", "[]"), askOf("strategic", "t", "x", "m", "{}"),
		} {
			if answer, _ := holdAlone(t, s, st, text); answer != plain("unfit") {
				t.Errorf("P23.4: %s is there: %s: %s", cut(data), answer, text)
			}
		}
	}
	for _, data := range []string{rec(`{}`), rec(`{"a":1}`), rec(`{"l":[{"id":1,"x":"q"}]}`, "m update .l[id=1].x"), rec(`{"w":[]}`)} {
		if answer, _ := holdAlone(t, s, laid(0, "t/x", data), askFor("get", "t", "x")); answer != objectAt([]byte(data), 1) {
			t.Errorf("P23.4: %s is there: %s", data, answer)
		}
	}
}

func TestAtOnce(t *testing.T) {
	s := made(rich(), 0)
	token := func(rev int, kind, sel, after string) string {
		x, e := feed.Token(rev, kind, sel, after)
		if e != api.OK {
			t.Fatal(e)
		}
		return quoted(x)
	}
	for _, c := range []struct{ text, want string }{
		{"", plain("malformed")}, {"abc", plain("malformed")}, {`{"op":"get",`, plain("malformed")}, {`{"op":"get","op":"get"}`, plain("malformed")},
		{strings.Repeat(" ", 1048577), plain("overlimit")}, {strings.Repeat("x", 1048577), plain("overlimit")}, {strings.Repeat(" ", 1048576), plain("malformed")},
		{strings.Repeat("[", 34) + strings.Repeat("]", 34), plain("overlimit")}, {"[" + strings.Repeat("1,", 65536) + "1]", plain("overlimit")},
		{"{}", plain("badrequest")}, {"[]", plain("badrequest")}, {ask("fly"), plain("badrequest")}, {ask("get", "kind", `"t"`), plain("badrequest")},
		{askFor("get", "u", "x"), plain("badrequest")}, {askFor("delete", "u", "x"), plain("badrequest")}, {ask("list", "kind", `"u"`), plain("badrequest")},
		{ask("events", "after", "0", "kind", `"u"`), plain("badrequest")}, {askFor("get", "T", "x"), plain("badrequest")},
		{askOf("create", "u", "x", "m", "5"), plain("badrequest")}, {askOf("apply", "u", "x", "m", "5"), plain("badrequest")}, {askOf("update", "u", "x", "m", "5"), plain("badrequest")},
		{askOf("merge", "u", "x", "m", "{}"), plain("badrequest")}, {askOf("steps", "u", "x", "m", "[]"), plain("badrequest")}, {askOf("strategic", "u", "x", "m", "{}"), plain("badrequest")},
		{askOf("apply", "t", "", "m", "5"), plain("badrequest")}, {askOf("apply", "t", "x", "", "5"), plain("badrequest")}, {askOf("apply", "t", "x", "m", "5", "revision", "0"), plain("badrequest")},
		{ask("list", "kind", `"t"`, "selector", `","`), plain("badrequest")}, {ask("list", "kind", `"t"`, "selector", quoted("a"+strings.Repeat(" ", 4096))), plain("badrequest")},
		{ask("list", "kind", `"t"`, "continue", `"x"`), plain("badrequest")}, {ask("list", "kind", `"t"`, "continue", token(0, "m", "", "")), plain("badrequest")},
		{ask("list", "kind", `"t"`, "continue", token(0, "t", "a", "")), plain("badrequest")}, {ask("list", "kind", `"t"`, "selector", `"a"`, "continue", token(0, "t", "", "")), plain("badrequest")},
		{ask("list", "kind", `"t"`, "selector", `"a,b"`, "continue", token(0, "t", "b,a", "")), plain("badrequest")}, {ask("list", "kind", `"t"`, "limit", "501"), plain("badrequest")},
		{ask("list", "kind", `"t"`, "selector", `","`, "continue", token(0, "t", "", "")), plain("badrequest")},
		{askOf("create", "t", "x", "m", "5"), violation("")}, {askOf("create", "t", "x", "m", "null"), violation("")}, {askOf("create", "t", "x", "m", `{"b":null}`), violation("/b")},
		{askOf("apply", "t", "x", "m", `{"s":["a","b","a"]}`), violation("/s/2")}, {askOf("apply", "t", "x", "m", `{"l":[{"id":1,"x":5}]}`), violation("/l/0/x")},
		{askOf("update", "t", "x", "m", `{"c":"b"}`), violation("/c")}, {askOf("update", "t", "x", "m", `{"m":{"a/b~":5}}`), violation("/m/a~1b~0")},
		{askOf("steps", "t", "x", "m", "{}"), plain("badrequest")}, {askOf("steps", "t", "x", "m", `[{"op":"fly","path":""}]`), plain("badrequest")},
		{askOf("steps", "t", "x", "m", `[{"op":"remove","path":"a"}]`), plain("badrequest")}, {askOf("steps", "t", "x", "m", "["+strings.Repeat(`{"op":"remove","path":"/a"},`, 256)+"{}]"), plain("badrequest")},
		{askOf("strategic", "t", "x", "m", `{"$patch":"wipe"}`), plain("badrequest")}, {askOf("strategic", "t", "x", "m", `{"$delete/a":[1]}`), plain("badrequest")},
	} {
		f, e := s.Begin([]byte(c.text))
		if e != api.OK || f.Next() != 0 || f.Lost() != 0 {
			t.Fatalf("P23.2: %d, Next %d: %s", e, f.Next(), cut(c.text))
		}
		if b, there := f.Answer(); !there || string(b) != c.want {
			t.Errorf("P23.2: %s, want %s: %s", b, c.want, cut(c.text))
		}
		if answer, _ := holdAlone(t, s, laid(0), c.text); answer != c.want {
			t.Errorf("P23.2: the second reading says %s: %s", answer, cut(c.text))
		}
	}
	for _, text := range []string{
		askFor("get", "t", "x"), askFor("get", "n", strings.Repeat("x", 64)), ask("events", "after", "9007199254740991"), ask("events", "after", "0", "kind", `"m"`),
		ask("list", "kind", `"t"`, "selector", quoted("a"+strings.Repeat(" ", 4095))), ask("list", "kind", `"t"`, "selector", `" a == b"`, "continue", token(9, "t", `"a" = b`, "zz")),
		askOf("merge", "t", "x", "m", "5"), askOf("merge", "t", "x", "m", `{"b":1}`), askOf("steps", "t", "x", "m", "["+strings.Repeat(`{"op":"remove","path":"/a"},`, 255)+`{"op":"remove","path":"/a"}]`),
		askOf("strategic", "t", "x", "m", "5"), askOf("strategic", "t", "x", "m", `{"b":1}`), askOf("apply", "t", "x", "m", `{"a":null}`),
	} {
		if f, e := s.Begin([]byte(text)); e != api.OK || f.Next() == 0 {
			t.Errorf("P23.2: %d, answered at once: %s", e, cut(text))
		}
		holdAlone(t, s, laid(0), text)
	}
}

// A place is told, if it is short enough: in a body, and in what a patch makes.
func TestWhere(t *testing.T) {
	s, st := made(rich(), 0), laid(0, "t/x", rec(`{"m":{"k":"v"}}`))
	for _, n := range []int{4092, 4093, 4094, 5000} {
		for _, key := range []string{strings.Repeat("k", n), strings.Repeat("é", n/2) + strings.Repeat("k", n%2)} {
			want := `{"class":"violation","where":"` + "/m/" + key + `"}`
			if n > 4093 {
				want = `{"class":"violation","where":""}`
			}
			body := `{"m":{"` + key + `":5}}`
			for _, text := range []string{askOf("create", "t", "y", "m", body), askOf("apply", "t", "x", "m", body), askOf("update", "t", "x", "m", body), askOf("merge", "t", "x", "m", body), askOf("strategic", "t", "x", "m", body), askOf("steps", "t", "x", "m", `[{"op":"add","path":"/m/`+key+`","value":5}]`)} {
				if answer, _ := holdAlone(t, s, st, text); answer != want {
					t.Errorf("P23.2: a place of %d bytes: %s", n+3, cut(answer))
				}
			}
		}
	}
	// What counts is the place's bytes, not those of its key: ~ and / take two.
	for n, want := range map[int]int{2046: 3 + 2*2046, 2047: 0} {
		text := askOf("create", "t", "y", "m", `{"m":{"`+strings.Repeat("/", n)+`":5}}`)
		if answer, _ := holdAlone(t, s, st, text); len(answer) != len(violation(""))+want {
			t.Errorf("P23.2: a place of %d slashes: %s", n, cut(answer))
		}
	}
}

// shelf is a store with objects of two kinds, what is no object among them, and a past: x/.. is of no kind of the schema.
func shelf() *store.Store {
	st := laid(0,
		"t/a", rec(`{"labels":{"tier":"p"}}`), "t/b", rec(`{"a":1}`, "m apply .a"), "t/c", rec(`{"labels":{"tier":"q"}}`), "m/a", rec(`{"k":"v"}`),
		"ta", "nothing", "x/a", rec(`{"b":[null]}`), "t-/a", rec(`{}`), "t0", rec(`{}`), "s/zz", "nothing")
	turn(st, "t/b", rec(`{"a":2}`, "n update .a"))
	turn(st, "t/a", "")
	turn(st, "t/d", rec(`{"q":5}`, "m apply .zz")) // a record, though not one of the type
	return st
}

func TestList(t *testing.T) {
	s, st := made(rich(), 0), shelf()
	all := `{"class":"ok","items":[{"name":"b","owners":[{"fields":{".a":{}},"manager":"n","way":"update"}],"revision":10,"value":{"a":2}},{"name":"c","owners":[],"revision":3,"value":{"labels":{"tier":"q"}}},{"name":"d","owners":[{"fields":{".zz":{}},"manager":"m","way":"apply"}],"revision":12,"value":{"q":5}}],"next":"","revision":12}`
	walk(t, s, twin(st), ask("list", "kind", `"t"`), step{2, all})
	walk(t, s, twin(st), ask("list", "kind", `"n"`), step{2, `{"class":"ok","items":[],"next":"","revision":12}`})
	walk(t, s, twin(st), ask("list", "kind", `"t"`, "limit", "1"), step{2, all[:strings.Index(all, `,{"name":"c"`)] + `],"next":"{\"after\":\"t/b\",\"kind\":\"t\",\"rev\":12,\"selector\":\"\"}","revision":12}`})
	for _, limit := range []string{"1", "2", "3", "4", "499", "500"} {
		for _, sel := range []string{"", "tier", "!tier", "tier=q", " tier == q", "tier!=q", "a,!a"} {
			for rev := -1; rev <= 13; rev++ {
				for _, after := range []string{"", "t/", "t/a", "t/b", "t/c", "t/zz", "m/a", "z"} {
					l := []string{"kind", `"t"`, "limit", limit, "selector", quoted(sel)}
					if rev >= 0 {
						token, _ := feed.Token(rev, "t", sel, after)
						l = append(l, "continue", quoted(token))
					}
					holdAlone(t, s, st, ask("list", l...))
				}
			}
		}
	}
	st.Compact(5)
	for rev, want := range map[int]string{4: "expired", 5: "ok", 12: "ok", 13: "expired", 9007199254740991: "expired"} {
		token, _ := feed.Token(rev, "t", "", "")
		if answer, _ := holdAlone(t, s, st, ask("list", "kind", `"t"`, "continue", quoted(token))); classOf(answer) != want {
			t.Errorf("P23.4: a list of the moment %d: %s", rev, answer)
		}
	}
}

// Pages, one behind the other, while others write: they tell the first one's moment.
func TestPages(t *testing.T) {
	s, st := made(rich(), 0), shelf()
	for i := range 30 {
		turn(st, "t/n"+strconv.Itoa(i), rec(`{"a":1}`))
	}
	want, _ := holdAlone(t, s, st, ask("list", "kind", `"t"`))
	var rows []string
	next := `""`
	for n := 0; n == 0 || next != `""`; n++ {
		l := []string{"kind", `"t"`, "limit", "7"}
		if n > 0 {
			l = append(l, "continue", next)
		}
		answer, _ := holdAlone(t, s, st, ask("list", l...))
		from, to := strings.Index(answer, "[")+1, strings.LastIndex(answer, `],"next":`)
		if classOf(answer) != "ok" || n > 9 {
			t.Fatalf("P23.4: the page %d: %s", n, answer)
		}
		rows = append(rows, answer[from:to])
		next = answer[to+len(`],"next":`) : strings.LastIndex(answer, ",")]
		turn(st, "t/n"+strconv.Itoa(3*n), "")
		turn(st, "t/new"+strconv.Itoa(n), rec("{}"))
	}
	if got := `{"class":"ok","items":[` + strings.Join(rows, ",") + `],"next":"","revision":42}`; got != want {
		t.Errorf("P23.4: the pages together: %s, want %s", got, want)
	}
}

// What can't be told in a page.
func TestUnfitPages(t *testing.T) {
	s := made(rich(), 0)
	for key, want := range map[string]string{
		"t/" + strings.Repeat("x", 64): "ok", "t/" + strings.Repeat("x", 65): "unfit", "t/": "unfit", "t/a/b": "unfit", "t//": "unfit", "t/a b": "unfit", "t/.a": "unfit", "t/é": "unfit", "t/\xff": "unfit", "t/0": "ok", "t/a._-": "ok", "t/-a": "unfit", "t/\x00": "unfit",
	} {
		st := laid(0, key, rec(`{"a":1}`))
		for _, text := range []string{ask("list", "kind", `"t"`), ask("list", "kind", `"t"`, "selector", `"!a"`), ask("events", "after", "0"), ask("events", "after", "0", "kind", `"t"`)} {
			if answer, _ := holdAlone(t, s, st, text); classOf(answer) != want {
				t.Errorf("P23.4: the key %q: %s: %s", key, answer, text)
			}
		}
	}
	for key, want := range map[string]string{"a": "unfit", "1/a": "unfit", "/a": "unfit", "_/a": "unfit", "z/a": "ok", strings.Repeat("k", 64) + "/a": "ok", strings.Repeat("k", 65) + "/a": "unfit", "a-_9/a": "ok", "a.b/a": "unfit"} {
		st := laid(0, key, rec(`{"a":1}`))
		if answer, _ := holdAlone(t, s, st, ask("events", "after", "0")); classOf(answer) != want {
			t.Errorf("P23.4: the key %q: %s", key, answer)
		}
		if answer, _ := holdAlone(t, s, st, ask("events", "after", "0", "kind", `"t"`)); answer != `{"class":"ok","events":[],"floor":0,"revision":1}` {
			t.Errorf("P23.4: the key %q is of another kind: %s", key, answer)
		}
	}
	for _, data := range []string{"", "{}", "nothing", rec("{}") + " ", `{"value":{}}`} {
		st := laid(0, "t/a", rec("{}"), "t/b", data, "t/c", rec("{}"))
		for text, want := range map[string]string{
			ask("list", "kind", `"t"`): "unfit", ask("list", "kind", `"t"`, "limit", "1"): "ok", ask("list", "kind", `"t"`, "selector", `"a"`): "ok", ask("list", "kind", `"t"`, "selector", `"!a"`): "unfit",
			ask("events", "after", "0"): "unfit", ask("events", "after", "0", "limit", "1"): "ok", ask("events", "after", "1", "limit", "1"): "unfit", ask("events", "after", "2"): "ok",
			ask("events", "after", "0", "kind", `"m"`): "ok", ask("list", "kind", `"m"`): "ok",
		} {
			if answer, _ := holdAlone(t, s, st, text); classOf(answer) != want {
				t.Errorf("P23.4: %q is there: %s: %s", data, answer, text)
			}
		}
	}
	// A page behind which no token leads on: its last key is no UTF-8. Of a page that tells it last there need be none.
	st := laid(0, "t/a", rec("{}"), "t/\xff", rec("{}"), "t/\xff\xff", rec("{}"))
	for _, limit := range []string{"2", "3"} {
		if answer, _ := holdAlone(t, s, st, ask("list", "kind", `"t"`, "limit", limit)); answer != plain("unfit") {
			t.Errorf("P23.4: a page without a token: %s", answer)
		}
	}
}

func TestEvents(t *testing.T) {
	s := made(rich(), 0)
	st := laid(5, "t/a", rec(`{"a":1}`, "m apply .a"), "m/a", rec(`{"k":"v"}`))
	turn(st, "t/a", rec(`{"a":2}`))
	turn(st, "t/a", "")
	l := []string{
		`{"event":"created","key":"t/a","owners":[{"fields":{".a":{}},"manager":"m","way":"apply"}],"revision":6,"value":{"a":1}}`,
		`{"event":"created","key":"m/a","owners":[],"revision":7,"value":{"k":"v"}}`,
		`{"event":"swapped","key":"t/a","owners":[],"revision":8,"value":{"a":2}}`,
		`{"event":"removed","key":"t/a","owners":[],"revision":9,"value":{"a":2}}`,
	}
	told := func(floor, rev int, rows ...string) string {
		return `{"class":"ok","events":[` + strings.Join(rows, ",") + `],"floor":` + strconv.Itoa(floor) + `,"revision":` + strconv.Itoa(rev) + "}"
	}
	walk(t, s, twin(st), ask("events", "after", "5"), step{3, told(5, 9, l...)})
	walk(t, s, twin(st), ask("events", "after", "5", "limit", "2"), step{3, told(5, 7, l[:2]...)})
	walk(t, s, twin(st), ask("events", "after", "5", "limit", "2", "kind", `"t"`), step{3, told(5, 8, l[0], l[2])})
	walk(t, s, twin(st), ask("events", "after", "6", "kind", `"m"`), step{3, told(5, 9, l[1])})
	walk(t, s, twin(st), ask("events", "after", "9"), step{3, told(5, 9)})
	walk(t, s, twin(st), ask("events", "after", "10"), step{3, plain("expired")})
	walk(t, s, twin(st), ask("events", "after", "4"), step{3, plain("expired")})
	walk(t, s, twin(st), ask("events", "after", "0"), step{3, plain("expired")})
	st.Compact(7)
	walk(t, s, twin(st), ask("events", "after", "7"), step{3, told(7, 9, l[2:]...)})
	walk(t, s, twin(st), ask("events", "after", "6"), step{3, plain("expired")})
	for after := range 14 {
		for _, limit := range []string{"1", "2", "3", "500"} {
			for _, kind := range []string{"t", "m", "n"} {
				holdAlone(t, s, shelf(), ask("events", "after", strconv.Itoa(after), "limit", limit, "kind", quoted(kind)))
			}
			holdAlone(t, s, shelf(), ask("events", "after", strconv.Itoa(after), "limit", limit))
		}
	}
}

// A page has MaxPage rows at the most, where no limit is told, and no more bytes than fit.
func TestLongPages(t *testing.T) {
	s, st := made(rich(), 0), laid(0)
	for i := range 502 {
		turn(st, "t/a"+strconv.Itoa(1000+i), rec(`{}`))
	}
	for _, text := range []string{ask("list", "kind", `"t"`), ask("list", "kind", `"t"`, "limit", "500"), ask("list", "kind", `"t"`, "limit", "499"), ask("events", "after", "0"), ask("events", "after", "2"), ask("events", "after", "1", "kind", `"t"`)} {
		answer, _ := holdAlone(t, s, st, text)
		if n := strings.Count(answer, `"owners"`); classOf(answer) != "ok" || n != 500 && !strings.Contains(text, "499") {
			t.Errorf("P23.4: %d rows: %s", n, text)
		}
	}
	wide := func(n int) string {
		return rec(`{"m":{"k":"` + strings.Repeat("x", n-len(rec(`{"m":{"k":""}}`))) + `"}}`)
	}
	for _, n := range []int{65536, 65537} {
		st := laid(0, "t/a", wide(65536), "t/b", wide(n), "t/c", wide(131072), "t/d", wide(131072))
		for text, want := range map[string]int{
			ask("list", "kind", `"t"`): 2 - n%2, ask("events", "after", "0"): 2 - n%2, ask("events", "after", "1"): 1, ask("events", "after", "2"): 1, ask("events", "after", "3"): 1,
		} {
			if answer, _ := holdAlone(t, s, st, text); strings.Count(answer, `"owners"`) != want {
				t.Errorf("P23.4: not %d rows: %s", want, text)
			}
		}
	}
}

// What the store refuses besides: it is full, or worn. That is no lost write.
func TestRefused(t *testing.T) {
	for _, retries := range []int{0, 2} {
		s := made(small(), retries)
		full := laid(0)
		for i := range 4096 {
			turn(full, "t/n"+strconv.Itoa(i), rec("{}"))
		}
		worn := laid(9007199254740990, "t/n1", rec(`{"a":1}`, "m apply .a"))
		for _, c := range []struct {
			st   *store.Store
			text string
			way  []step
		}{
			{full, askOf("create", "t", "new", "m", `{"a":1}`), []step{{4, plain("overlimit")}}},
			{full, askOf("create", "t", "n1", "m", `{"a":1}`), []step{{4, plain("exists")}}},
			{full, askOf("apply", "t", "new", "m", `{"a":1}`), []step{{1, ""}, {4, plain("overlimit")}}},
			{full, askOf("apply", "t", "n1", "m", `{}`), []step{{1, `{"class":"ok","owners":[],"revision":2,"value":{}}`}}},
			{full, askOf("apply", "t", "n1", "m", `{"a":1}`), []step{{1, ""}, {5, `{"class":"ok","owners":[{"fields":{".a":{}},"manager":"m","way":"apply"}],"revision":4097,"value":{"a":1}}`}}},
			{worn, askOf("create", "t", "new", "m", `{"a":1}`), []step{{4, plain("overlimit")}}},
			{worn, askOf("create", "t", "n1", "m", `{"a":1}`), []step{{4, plain("exists")}}},
			{worn, askOf("apply", "t", "new", "m", `{"a":1}`), []step{{1, ""}, {4, plain("overlimit")}}},
			{worn, askOf("apply", "t", "n1", "m", `{"a":2}`), []step{{1, ""}, {5, plain("overlimit")}}},
			{worn, askOf("apply", "t", "n1", "m", `{"a":1}`), []step{{1, `{"class":"ok","owners":[{"fields":{".a":{}},"manager":"m","way":"apply"}],"revision":9007199254740991,"value":{"a":1}}`}}},
			{worn, askOf("update", "t", "n1", "m", `{}`), []step{{1, ""}, {5, plain("overlimit")}}},
			{worn, askOf("update", "t", "n1", "m", `{}`, "revision", "9007199254740991"), []step{{1, ""}, {5, plain("overlimit")}}},
			{worn, askOf("merge", "t", "n1", "m", `{"a":2}`), []step{{1, ""}, {5, plain("overlimit")}}},
			{worn, askFor("delete", "t", "n1"), []step{{1, ""}, {6, plain("overlimit")}}},
			{worn, askFor("delete", "t", "new"), []step{{1, plain("notfound")}}},
			{worn, ask("events", "after", "9007199254740991"), []step{{3, `{"class":"ok","events":[],"floor":9007199254740990,"revision":9007199254740991}`}}},
		} {
			st := twin(c.st)
			walk(t, s, st, c.text, c.way...)
			if answer, _ := holdAlone(t, s, c.st, c.text); answer != c.way[len(c.way)-1].answer {
				t.Errorf("P23.4: the second reading says %s: %s", answer, c.text)
			}
			if c.st == worn && st.Rev() != worn.Rev() {
				t.Errorf("P23.7: the counter is %d: %s", st.Rev(), c.text)
			}
		}
	}
}

// Every write that is lost counts: with one more than the retries it is the end, and no write that is won behind it.
func TestLost(t *testing.T) {
	bump := func(st *store.Store, key string) {
		data, rev, _ := st.Get(key)
		st.Swap(key, rev, data)
	}
	for _, retries := range []int{0, 1, 2, 5, 63, 64} {
		s := made(small(), retries)
		for _, text := range []string{askOf("apply", "t", "x", "n", `{"a":2}`, "force", "true"), askOf("update", "t", "x", "n", `{"a":2}`), askOf("merge", "t", "x", "n", `{"a":2}`), askOf("steps", "t", "x", "n", `[{"op":"replace","path":"/a","value":2}]`), askOf("strategic", "t", "x", "n", `{"a":2}`), askFor("delete", "t", "x")} {
			for lose := 0; lose <= retries+1; lose += max(1, retries/4) {
				st := laid(0, "t/x", rec(`{"a":1}`, "m apply .a"))
				f, _ := s.Begin([]byte(text))
				for n := range lose {
					if done, e := f.Step(st); done || e != api.OK || f.Lost() != n || f.Next() < 5 {
						t.Fatalf("P23.4: the read %d: %v, %d, %d lost: %s", n, done, e, f.Lost(), text)
					}
					bump(st, "t/x")
					if done, e := f.Step(st); done != (n == retries) || e != api.OK || f.Lost() != n+1 {
						t.Fatalf("P23.4: the lost write %d of %d: %v, %d, %d lost: %s", n, retries, done, e, f.Lost(), text)
					}
				}
				for f.Next() != 0 {
					f.Step(st)
				}
				b, _ := f.Answer()
				want, rev := "ok", lose+2
				if lose > retries {
					want, rev = "exhausted", lose+1
				}
				if classOf(string(b)) != want || st.Rev() != rev || f.Lost() != lose {
					t.Errorf("P23.5: %d of %d lost: %s, the counter at %d: %s", lose, retries, b, st.Rev(), text)
				}
			}
		}
	}
}

// Nothing of an earlier read counts: what is there at the last one decides.
func TestAnew(t *testing.T) {
	one, two, free := rec(`{"a":1}`, "m apply .a"), rec(`{"a":2}`, "o update .a"), rec(`{"a":2}`)
	applied := askOf("apply", "t", "x", "n", `{"a":2}`)
	for _, c := range []struct {
		text, was, is string
		want          string
	}{
		{applied, "", one, `{"class":"conflict","conflicts":[{"fields":{".a":{}},"manager":"m","way":"apply"}],"revision":1}`},
		{applied, "", two, `{"class":"ok","owners":[{"fields":{".a":{}},"manager":"n","way":"apply"},{"fields":{".a":{}},"manager":"o","way":"update"}],"revision":2,"value":{"a":2}}`},
		{applied, "", rec(`{"a":2}`, "n apply .a"), `{"class":"ok","owners":[{"fields":{".a":{}},"manager":"n","way":"apply"}],"revision":1,"value":{"a":2}}`},
		{applied, "", "nothing", plain("unfit")},
		{applied, free, "", `{"class":"ok","owners":[{"fields":{".a":{}},"manager":"n","way":"apply"}],"revision":3,"value":{"a":2}}`},
		{applied, rec(`{}`), two, `{"class":"ok","owners":[{"fields":{".a":{}},"manager":"n","way":"apply"},{"fields":{".a":{}},"manager":"o","way":"update"}],"revision":3,"value":{"a":2}}`},
		{applied, rec(`{}`), one, `{"class":"conflict","conflicts":[{"fields":{".a":{}},"manager":"m","way":"apply"}],"revision":2}`},
		{askOf("apply", "t", "x", "n", `{"a":2}`, "revision", "1"), free, two, staleAt(2)},
		{askOf("apply", "t", "x", "n", `{"a":2}`, "revision", "1"), free, "", staleAt(0)},
		{askOf("update", "t", "x", "n", `{"a":2}`), one, two, objectAt([]byte(two), 2)},
		{askOf("update", "t", "x", "n", `{"a":2}`), one, "", plain("notfound")},
		{askOf("update", "t", "x", "n", `{"a":2}`), one, "nothing", plain("unfit")},
		{askOf("update", "t", "x", "n", `{"a":2}`, "revision", "1"), one, one, staleAt(2)},
		{askOf("steps", "t", "x", "n", `[{"op":"replace","path":"/a","value":3}]`), one, rec(`{}`), plain("unfit")},
		{askOf("merge", "t", "x", "n", `{"a":2}`), one, two, objectAt([]byte(two), 2)},
		{askFor("delete", "t", "x"), one, "", plain("notfound")},
		{askFor("delete", "t", "x"), one, two, removedAt(3)},
		{askFor("delete", "t", "x"), one, "nothing", plain("unfit")},
		{askFor("delete", "t", "x", "revision", "1"), one, two, staleAt(2)},
	} {
		for retries := range 3 {
			s, st := made(small(), retries), laid(0)
			turn(st, "t/x", c.was)
			between := func(st *store.Store, n int) {
				if n == 1 {
					turn(st, "t/x", c.is)
				}
			}
			want := c.want
			if retries == 0 {
				want = plain("exhausted")
			}
			if answer, _ := hold(t, s, st, c.text, between); answer != want {
				t.Errorf("P23.4: it was %q, it is %q: %s, want %s: %s", c.was, c.is, answer, want, c.text)
			}
		}
	}
	// Removed and made anew with the same bytes: it has another revision.
	for retries, want := range []string{plain("exhausted"), removedAt(4)} {
		between := func(st *store.Store, n int) {
			if n == 1 {
				turn(st, "t/x", "")
				turn(st, "t/x", one)
			}
		}
		if answer, _ := hold(t, made(small(), retries), laid(0, "t/x", one), askFor("delete", "t", "x"), between); answer != want {
			t.Errorf("P23.4: made anew: %s", answer)
		}
	}
	// What others make of other objects is in nobody's way.
	between := func(st *store.Store, n int) { turn(st, "t/y"+strconv.Itoa(n), one) }
	if answer, _ := hold(t, made(small(), 0), laid(0, "t/x", one), askFor("delete", "t", "x"), between); answer != removedAt(4) {
		t.Errorf("P23.4: beside others: %s", answer)
	}
}
