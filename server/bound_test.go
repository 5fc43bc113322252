package server

import (
	"math/rand"
	"strconv"
	"strings"
	"testing"

	"freehold/api"
	"freehold/record"
	"freehold/store"
)

// long is a record of so many bytes, of the kind t of the rich schema.
func long(n int, owners ...string) string {
	bare := len(rec(`{"m":{"k":""}}`, owners...))
	return rec(`{"m":{"k":"`+strings.Repeat("x", n-bare)+`"}}`, owners...)
}

// A record of MaxObject bytes is written; with one byte more it is overlimit, at once of a create, else behind the read.
func TestLongRecord(t *testing.T) {
	s := made(rich(), 0)
	const room = 131072
	body := func(n int) string { return `{"m":{"k":"` + strings.Repeat("x", n) + `"}}` }
	for _, c := range []struct {
		op, owner, was, patch string
	}{
		{"create", "n update .m.k", "", ""},
		{"apply", "n apply .m.k", "", ""},
		{"apply", "n apply .m.k", rec(`{}`), ""},
		{"update", "n update .m.k", rec(`{"a":1}`), ""},
		{"merge", "n update .m.k", rec(`{}`), ""},
		{"strategic", "n update .m.k", rec(`{}`), ""},
		{"steps", "n update .m.k", rec(`{"m":{"k":"v"}}`), `[{"op":"replace","path":"/m","value":{"k":"`},
	} {
		st := laid(0)
		turn(st, "t/x", c.was)
		fits := room - len(rec(`{"m":{"k":""}}`, c.owner))
		for _, n := range []int{fits, fits + 1} {
			b := body(n)
			if c.patch != "" {
				b = c.patch + strings.Repeat("x", n) + `"}}]`
			}
			answer, behind := holdAlone(t, s, st, askOf(c.op, "t", "x", "n", b))
			data, _, _ := behind.Get("t/x")
			if n == fits && (classOf(answer) != "ok" || len(data) != room) || n > fits && (answer != plain("overlimit") || string(data) != c.was) {
				t.Errorf("P23.4: %s of a record of %d bytes: %s", c.op, room+n-fits, cut(answer))
			}
			f, _ := s.Begin([]byte(askOf(c.op, "t", "x", "n", b)))
			if atOnce := c.op == "create" && n > fits; (f.Next() == 0) != atOnce {
				t.Errorf("P23.2: %s of %d bytes: Next %d", c.op, n, f.Next())
			}
		}
	}
	// A body that is not valid is violation, however long its record would be; so is what a patch makes.
	broken := `{"b":1,"m":{"k":"` + strings.Repeat("x", room) + `"}}`
	for _, op := range []string{"create", "apply", "update", "merge", "strategic"} {
		if answer, _ := holdAlone(t, s, laid(0, "t/x", rec(`{}`)), askOf(op, "t", "x", "n", broken)); answer != violation("/b") {
			t.Errorf("P23.2: %s: %s", op, cut(answer))
		}
	}
	// Of a long object that is there all can be asked.
	st := laid(0, "t/x", long(room, "m apply .m.k"))
	for text, want := range map[string]string{
		askFor("get", "t", "x"): "ok", ask("list", "kind", `"t"`): "ok", ask("events", "after", "0"): "ok", askOf("merge", "t", "x", "n", `{}`): "ok", askOf("merge", "t", "x", "n", `{"a":1}`): "overlimit",
		askOf("apply", "t", "x", "n", `{"m":{"k":"y"}}`): "conflict", askOf("apply", "t", "x", "m", `{}`): "ok", askOf("apply", "t", "x", "m", `{"a":1}`): "ok", askOf("apply", "t", "x", "n", `{"a":1}`): "overlimit", askFor("delete", "t", "x"): "ok",
	} {
		if answer, _ := holdAlone(t, s, st, text); classOf(answer) != want {
			t.Errorf("P23.4: beside a long object: %s: %s", cut(answer), text)
		}
	}
}

// An answer has room for a record with as many values as there can be, and for as long and deep ones.
func TestFullAnswers(t *testing.T) {
	s := made(loose(), 0)
	n := (131072 - len(rec(`{"n":[]}`)) + 1) / 2
	path := strings.Repeat(".d", 31) + ".v"
	for _, data := range []string{
		rec(`{"n":[` + strings.Repeat("1,", n-1) + `1]}`),
		rec(`{"t":{"k":"` + strings.Repeat(`\"`, 65000) + `"}}`),
		rec(deep(31), "m apply "+path, "n update "+path),
	} {
		if len(data) > 131072 {
			t.Fatalf("a record of %d bytes", len(data))
		}
		st := laid(0, "o/x", data)
		turn(st, "o/x", data)
		turn(st, "o/x", "")
		turn(st, "o/x", data)
		for _, text := range []string{ask("list", "kind", `"o"`), ask("events", "after", "0", "limit", "1"), ask("events", "after", "2"), ask("events", "after", "0")} {
			if answer, _ := holdAlone(t, s, st, text); classOf(answer) != "ok" || strings.Count(answer, `"owners"`) < 1 {
				t.Errorf("the page: %s: %s", cut(answer), text)
			}
		}
		for _, text := range []string{askFor("get", "o", "x"), askOf("merge", "o", "x", "m", `{}`)} {
			if answer, _ := holdAlone(t, s, st, text); answer != objectAt([]byte(data), 4) {
				t.Errorf("the object: %s: %s", cut(answer), text)
			}
		}
	}
}

// deep is a value of the loose type that has depth n + 1.
func deep(n int) string {
	return strings.Repeat(`{"d":`, n) + `{"v":1}` + strings.Repeat("}", n)
}

// What a patch makes can be too deep, of too many values or bytes, ahead of all else that is wrong with it; what can't be done ahead of that step comes first.
func TestLargePatches(t *testing.T) {
	s := made(loose(), 0)
	ones := func(n int) string { return "[" + strings.Repeat("1,", n-1) + "1]" }
	text := func(n int) string { return `"` + strings.Repeat("x", n) + `"` }
	steps := func(l ...string) string { return "[" + strings.Join(l, ",") + "]" }
	add := func(path, v string) string { return `{"op":"add","path":"` + path + `","value":` + v + `}` }
	copied := func(from, path string) string {
		return `{"from":"` + from + `","op":"copy","path":"` + path + `"}`
	}
	nested, at := rec(deep(10)), strings.Repeat("/d", 11)
	unfit, tooDeep := `{"op":"remove","path":"/q"}`, add(at, deep(21))
	for _, c := range []struct{ op, was, body, want string }{
		{"steps", nested, steps(add(at, deep(20))), "ok"},
		{"steps", nested, steps(tooDeep), "overlimit"},
		{"steps", nested, steps(tooDeep, unfit), "overlimit"},
		{"steps", nested, steps(unfit, tooDeep), "unfit"},
		{"steps", nested, steps(tooDeep, `{"op":"remove","path":"`+at+`"}`), "overlimit"},
		{"steps", nested, steps(add("/q", "1"), tooDeep), "overlimit"},
		{"steps", nested, steps(add("/q", "1"), unfit), "ok"},
		{"steps", nested, steps(add("/q", "1")), "violation"},
		{"steps", nested, steps(add("/q", "1"), unfit, unfit), "unfit"},
		{"steps", rec(`{"n":` + ones(60000) + `}`), steps(add("/q", ones(5533))), "violation"},
		{"steps", rec(`{"n":` + ones(60000) + `}`), steps(add("/q", ones(5534))), "overlimit"},
		{"steps", rec(`{"n":` + ones(60000) + `}`), steps(copied("/n", "/q")), "overlimit"},
		{"merge", rec(`{"n":` + ones(60000) + `}`), `{"q":` + ones(5533) + `}`, "violation"},
		{"merge", rec(`{"n":` + ones(60000) + `}`), `{"q":` + ones(5534) + `}`, "overlimit"},
		{"strategic", rec(`{"n":` + ones(60000) + `}`), `{"q":` + ones(5533) + `}`, "violation"},
		{"strategic", rec(`{"n":` + ones(60000) + `}`), `{"q":` + ones(5534) + `}`, "overlimit"},
		{"merge", rec(`{"t":{"k":` + text(100000) + `}}`), `{"q":` + text(948573) + `}`, "violation"},
		{"merge", rec(`{"t":{"k":` + text(100000) + `}}`), `{"q":` + text(948574) + `}`, "overlimit"},
		{"strategic", rec(`{"t":{"k":` + text(100000) + `}}`), `{"q":` + text(948573) + `}`, "violation"},
		{"strategic", rec(`{"t":{"k":` + text(100000) + `}}`), `{"q":` + text(948574) + `}`, "overlimit"},
		{"steps", rec(`{"t":{"k":` + text(100000) + `}}`), steps(copied("/t/k", "/t/l"), copied("/t", "/t/m")), "violation"},
		{"steps", rec(`{"t":{"k":` + text(100000) + `}}`), steps(copied("/t/k", "/t/l")), "overlimit"},
		{"steps", rec(`{"t":{"k":` + text(100000) + `}}`), steps(copied("/t", "/t/m"), copied("/t", "/t/n"), copied("/t", "/t/o"), copied("/t", "/t/p"), unfit), "overlimit"},
		{"steps", rec(`{"t":{"k":` + text(100000) + `}}`), steps(copied("/t", "/t/m"), copied("/t", "/t/n"), unfit, copied("/t", "/t/o"), copied("/t", "/t/p")), "unfit"},
		{"apply", rec(`{"n":` + ones(60000) + `}`), `{"i":{"a":1}}`, "ok"},
		{"apply", rec(`{"i":{"a":1}}`), `{"n":` + ones(65531) + `}`, "overlimit"},
		{"apply", rec(`{"n":`+ones(60000)+`}`, "m apply .n"), `{"n":` + ones(60001) + `}`, "conflict"},
		{"apply", rec(`{"n":`+ones(60000)+`,"i":{"a":1}}`, "m apply .i.a"), `{"i":{"a":2},"t":{"k":` + text(131072) + `}}`, "conflict"},
	} {
		st := laid(0, "o/x", c.was)
		if answer, _ := holdAlone(t, s, st, askOf(c.op, "o", "x", "n", c.body)); classOf(answer) != c.want {
			t.Errorf("P23.4: %s, want %s: %s of %s on %s", cut(answer), c.want, c.op, cut(c.body), cut(c.was))
		}
	}
}

// crowd is as many managers as may be, each of whom has .a by apply.
func crowd(n int) []string {
	var l []string
	for i := range n {
		l = append(l, "m"+strconv.Itoa(100+i)+" apply .a")
	}
	return l
}

func TestManyManagers(t *testing.T) {
	s := made(rich(), 0)
	for n, want := range map[int]string{63: "ok", 64: "overlimit"} {
		for _, text := range []string{askOf("apply", "t", "x", "n", `{"a":1}`), askOf("apply", "t", "x", "n", `{"s":["p"]}`), askOf("update", "t", "x", "n", `{"a":1,"s":["p"]}`), askOf("merge", "t", "x", "n", `{"m":{"k":"v"}}`), askOf("strategic", "t", "x", "n", `{"m":{"k":"v"}}`), askOf("steps", "t", "x", "n", `[{"op":"add","path":"/s","value":["p"]}]`)} {
			st := laid(0, "t/x", rec(`{"a":1}`, crowd(n)...))
			if answer, _ := holdAlone(t, s, st, text); classOf(answer) != want {
				t.Errorf("P23.4: %d managers and one more: %s: %s", n, cut(answer), text)
			}
		}
	}
	st := laid(0, "t/x", rec(`{"a":1}`, crowd(64)...))
	for text, want := range map[string]string{
		askOf("apply", "t", "x", "n", `{"a":2}`): "conflict", askOf("apply", "t", "x", "n", `{"a":2}`, "force", "true"): "ok", askOf("update", "t", "x", "n", `{"a":2}`): "ok", askOf("update", "t", "x", "n", `{}`): "ok",
		askOf("merge", "t", "x", "n", `{"a":1}`): "ok", askOf("apply", "t", "x", "n", `{}`): "ok", askOf("apply", "t", "x", "m100", `{"c":"g"}`): "ok", askOf("apply", "t", "x", "n", `{"a":2,"c":"b"}`): "violation", askOf("merge", "t", "x", "n", `{"c":"b"}`): "violation",
	} {
		if answer, _ := holdAlone(t, s, st, text); classOf(answer) != want {
			t.Errorf("P23.4: beside 64 managers: %s: %s", cut(answer), text)
		}
	}
	conflict, _ := holdAlone(t, s, st, askOf("apply", "t", "x", "n", `{"a":2}`))
	if strings.Count(conflict, `"manager"`) != 64 {
		t.Errorf("P23.4: with all 64: %s", cut(conflict))
	}
}

// roomy is a list with room behind it, full of something.
func roomy[T any](l []T, x T) []T {
	to := make([]T, len(l), len(l)+3)
	copy(to, l)
	for i := len(l); i < cap(to); i++ {
		to[:cap(to)][i] = x
	}
	return to
}

// roomySchema is a schema all of whose lists have room behind them.
func roomySchema(sc api.Schema) api.Schema {
	for i, t := range sc.Types {
		t.Fields = roomy(t.Fields, api.Field{Name: "no", Type: "no"})
		t.Keys, t.Enum = roomy(t.Keys, "no"), roomy(t.Enum, api.Value{Kind: api.Int, Int: 9})
		sc.Types[i] = t
	}
	return api.Schema{Types: roomy(sc.Types, api.Type{Name: "no"}), Roots: roomy(sc.Roots, api.Root{Kind: "no", Type: "no"})}
}

// spoilSchema writes over all lists of a schema, and the room behind them.
func spoilSchema(sc api.Schema) {
	for _, t := range sc.Types[:cap(sc.Types)] {
		clear(t.Fields[:cap(t.Fields)])
		clear(t.Keys[:cap(t.Keys)])
		clear(t.Enum[:cap(t.Enum)])
	}
	clear(sc.Types[:cap(sc.Types)])
	clear(sc.Roots[:cap(sc.Roots)])
}

// What is handed in is not changed and not kept: neither the schema, nor a text, nor what a store told.
func TestMemory(t *testing.T) {
	sc := roomySchema(rich())
	s := made(sc, 1)
	if !same(sc, rich()) || !same(sc.Types[:cap(sc.Types)][len(sc.Types)], api.Type{Name: "no"}) || !same(s.schema, rich()) {
		t.Fatal("P23.8: New changed the schema")
	}
	spoilSchema(sc)
	if !same(s.schema, rich()) {
		t.Fatal("P23.8: New kept the schema")
	}
	st := laid(0, "t/x", rec(`{"c":"g","l":[{"id":1,"x":"q"}]}`, "m apply .l[id=1] .l[id=1].x"))
	for _, text := range []string{askFor("get", "t", "x"), askOf("apply", "t", "x", "n", `{"c":"r","l":[{"id":2}]}`), askOf("apply", "t", "x", "n", `{"c":"b"}`), askOf("merge", "t", "x", "n", `{"l":[{"id":1,"x":"z"}]}`), ask("list", "kind", `"t"`)} {
		holdAlone(t, s, st, text)
		b := roomy([]byte(text), '?')
		got, _ := s.Do(twin(st), b)
		if string(b[:cap(b)]) != text+"???" {
			t.Errorf("P23.8: Do changed %s", text)
		}
		want := string(got)
		scribble(got)
		if again, _ := s.Do(twin(st), b); string(again) != want {
			t.Errorf("P23.8: what was written into an answer is seen in the next one: %s", text)
		}
	}
}

// Flights that all read the same, one behind the other: all but the first that writes lose, and read again.
func TestFlightsApart(t *testing.T) {
	s, st := made(rich(), 3), laid(0, "t/x", rec(`{"a":1}`, "m apply .a"))
	var l []*Flight
	for i := range 5 {
		f, _ := s.Begin([]byte(askOf("apply", "t", "x", "n"+strconv.Itoa(i), `{"m":{"k`+strconv.Itoa(i)+`":"v"}}`)))
		l = append(l, f)
	}
	for _, f := range l {
		f.Step(st)
	}
	for i, f := range l {
		for f.Next() != 0 {
			f.Step(st)
		}
		b, _ := f.Answer()
		if classOf(string(b)) != "ok" || f.Lost() != min(i, 1) || !strings.Contains(string(b), `"revision":`+strconv.Itoa(i+2)) {
			t.Errorf("P23.7: the flight %d: %s, %d lost", i, b, f.Lost())
		}
	}
	data, _, _ := st.Get("t/x")
	if o, e := record.Decode(data); e != api.OK || len(o.Entries) != 6 || len(o.Value.Map[1].Val.Map) != 5 {
		t.Errorf("P23.7: %s", data)
	}
}

// A server serves many at once: nothing of it is written.
func TestBeside(t *testing.T) {
	s := made(rich(), 1)
	done := make(chan string)
	for i := range 8 {
		go func() {
			r := rand.New(rand.NewSource(int64(i % 2)))
			st, _ := store.New(0)
			said := ""
			for range 100 {
				b, _ := s.Do(st, []byte(pickRequest(r)))
				said += string(b)
			}
			done <- strconv.Itoa(i%2) + said
		}()
	}
	said := map[byte]string{}
	for range 8 {
		x := <-done
		if was, there := said[x[0]]; there && was != x {
			t.Error("P23.7: the same requests were answered otherwise")
		}
		said[x[0]] = x
	}
}
