package server

import (
	"bytes"
	"math/rand"
	"slices"
	"sort"
	"strconv"
	"strings"
	"testing"

	"freehold/feed"
	"freehold/store"
)

// states is what can stand under a key, as far as the small schema can tell it apart: nothing, objects with and without owners, what is no sound record.
func states() []string {
	return []string{
		"", rec(`{}`), rec(`{"a":1}`), rec(`{"a":2}`), rec(`{"a":1}`, "m apply .a"), rec(`{"a":1}`, "m update .a"), rec(`{"a":2}`, "m apply .a"), rec(`{"a":2}`, "n apply .a"), rec(`{"a":1}`, "m apply .a", "n update .a"),
		rec(`{"a":1}`, crowd(64)...), "nothing", rec(`{"b":1}`), rec(`{"a":null}`), rec(`{"a":1}`, "m apply .b"),
	}
}

// asked is requests of each op for the object t/x, with bodies that fit and that do not.
func asked() []string {
	l := []string{askFor("get", "t", "x"), ask("list", "kind", `"t"`), ask("events", "after", "0"), askOf("create", "t", "x", "m", `{"a":1}`), askOf("create", "t", "x", "m", `{}`), askOf("create", "t", "x", "m", `{"b":1}`)}
	for _, more := range [][]string{nil, {"revision", "1"}, {"revision", "2"}} {
		l = append(l, askFor("delete", "t", "x", more...))
		for _, op := range []string{"apply", "update", "merge", "strategic", "steps"} {
			bodies := []string{`{}`, `{"a":1}`, `{"a":2}`, `{"a":null}`, `{"b":1}`}
			if op == "steps" {
				bodies = []string{`[]`, `[{"op":"remove","path":"/a"}]`, `[{"op":"add","path":"/a","value":2}]`, `[{"op":"test","path":"/a","value":1}]`, `[{"op":"add","path":"/b","value":1}]`}
			}
			for _, b := range bodies {
				l = append(l, askOf(op, "t", "x", "m", b, more...))
				if op == "apply" {
					l = append(l, askOf(op, "t", "x", "m", b, append([]string{"force", "true"}, more...)...))
				}
			}
		}
	}
	return l
}

// Every request, on everything that can be there, with everything that can come to be there ahead of its write.
func TestEveryTurn(t *testing.T) {
	met := count{}
	for _, was := range states() {
		st := laid(0)
		turn(st, "t/x", was)
		for _, text := range asked() {
			answer, _ := holdAlone(t, made(small(), 0), st, text)
			met[classOf(answer)]++
			f, _ := made(small(), 0).Begin([]byte(text))
			if f.Step(twin(st)); f.Next() == 0 { // it writes at once, or not at all: nothing can come between
				continue
			}
			for _, is := range states() {
				between := func(st *store.Store, n int) {
					if n == 1 {
						turn(st, "t/x", is)
					}
				}
				for retries := range 2 {
					answer, _ := hold(t, made(small(), retries), st, text, between)
					met[classOf(answer)]++
				}
			}
		}
	}
	met.covers(t, "ok overlimit violation unfit notfound exists stale conflict exhausted")
}

// Picked ones of all that can come ahead of each of many accesses.
func TestManyTurns(t *testing.T) {
	r := rand.New(rand.NewSource(23))
	all, texts, met := states(), asked(), count{}
	for range 20000 {
		st := laid(r.Intn(2))
		turn(st, "t/x", pickOf(r, all[:9]...))
		var coming []string
		for range 8 {
			coming = append(coming, pickOf(r, append(all[:9], "keep", "keep", "keep", "keep", "keep", pickOf(r, all...))...))
		}
		others := func(st *store.Store, n int) {
			if n < len(coming) && coming[n] != "keep" {
				turn(st, "t/x", coming[n])
			}
		}
		answer, _ := hold(t, made(small(), r.Intn(5)), st, pickOf(r, texts...), others)
		met[classOf(answer)]++
	}
	met.covers(t, "ok overlimit violation unfit notfound exists stale conflict expired exhausted")
}

// Picked requests of the rich schema.

func pickKey(r *rand.Rand) string { return pickOf(r, "x", "y", "x-1") }

func pickKind(r *rand.Rand) string { return pickOf(r, "t", "t", "t", "t", "m", "n", "u") }

func pickManager(r *rand.Rand) string { return pickOf(r, "m", "n", "o o") }

// pickList is some of some texts, now and then one twice.
func pickList(r *rand.Rand, l ...string) string {
	var some []string
	for range r.Intn(4) {
		some = append(some, pickOf(r, l...))
	}
	if r.Intn(4) > 0 {
		sort.Strings(some)
		some = slices.Compact(some)
	}
	return "[" + strings.Join(some, ",") + "]"
}

func pickLabels(r *rand.Rand) string {
	return pickOf(r, `{}`, `{"k":"v"}`, `{"k":"w","l":"v"}`, `{"k":null}`, `{"l":"v"}`, `{"k":"v"}`, `{"k":5}`)
}

func pickElements(r *rand.Rand) string {
	return pickList(r, `{"id":1}`, `{"id":1,"x":"q"}`, `{"id":2,"x":"p"}`, `{"id":2}`, `{"id":3,"x":null}`, `{"id":3,"x":"r"}`, pickOf(r, `{"x":"q"}`, `{"id":null}`, `{"id":4,"y":1}`, `{"id":5}`, `{"id":5,"x":"s"}`))
}

// pickBody is the text of a value of the type, or nearly one.
func pickBody(r *rand.Rand, kind string) string {
	if kind != "t" {
		return pickLabels(r)
	}
	var l []string
	for i, pick := range []func() string{
		func() string { return `"a":` + pickOf(r, "1", "2", "null", "1", "2", `"x"`) },
		func() string { return `"c":` + pickOf(r, `"g"`, `"r"`, "null", `"g"`, `"r"`, `"b"`) },
		func() string { return `"l":` + pickElements(r) },
		func() string { return `"labels":` + pickLabels(r) },
		func() string { return `"m":` + pickLabels(r) },
		func() string { return `"s":` + pickList(r, `"p"`, `"q"`, `"r"`) },
		func() string { return `"w":` + pickList(r, "1", "2", "3") },
		func() string { return `"q":` + pickOf(r, "1", "null") },
	} {
		if n := r.Intn(8); n < 3 && i < 7 || n == 0 && r.Intn(4) == 0 {
			l = append(l, pick())
		}
	}
	return "{" + strings.Join(l, ",") + "}"
}

// pickPatch is the text of a patch that knows the schema, or nearly one.
func pickPatch(r *rand.Rand, kind string) string {
	switch r.Intn(6) {
	case 0:
		return `{"$patch":` + pickOf(r, `"replace"`, `"delete"`, `"merge"`, `"wipe"`) + pickOf(r, "", `,"a":2`, `,"s":["p"]`) + "}"
	case 1:
		return `{"$delete/s":` + pickOf(r, `["p"]`, `["p","q"]`, `[1]`, `"p"`) + pickOf(r, "", `,"s":["z"]`) + "}"
	case 2:
		return `{"l":[` + pickOf(r, `{"$patch":"replace"},{"id":2}`, `{"$patch":"delete","id":1}`, `{"id":1,"x":null},{"id":9,"x":"n"}`, `{"$patch":"merge"}`, `{"x":"n"}`) + "]}"
	}
	return pickBody(r, kind)
}

// pickStep is the text of a step, or nearly one.
func pickStep(r *rand.Rand) string {
	path := pickOf(r, "/a", "/c", "/s/0", "/s/-", "/l/0/x", "/l/-", "/m/k", "/labels", "/w/-", "", "/q", "/l/1")
	v := pickOf(r, "1", "2", `"p"`, `"z"`, `{"id":7}`, "null", `{"k":"v"}`, "[]", `"g"`)
	switch op := pickOf(r, "add", "add", "add", "remove", "replace", "move", "copy", "test", "fly"); op {
	case "move", "copy":
		return `{"from":"` + pickOf(r, "/a", "/m", "/l/0", "/s", "/labels/k") + `","op":"` + op + `","path":"` + path + `"}`
	default:
		return `{"op":"` + op + `","path":"` + path + `","value":` + v + "}"
	}
}

func pickSteps(r *rand.Rand) string {
	var l []string
	for range r.Intn(4) {
		l = append(l, pickStep(r))
	}
	return "[" + strings.Join(l, ",") + "]"
}

func pickRev(r *rand.Rand) string { return strconv.Itoa(r.Intn(12)) }

// pickRead is a request that does not write.
func pickRead(r *rand.Rand) string {
	kind := pickKind(r)
	switch r.Intn(3) {
	case 0:
		return askFor("get", kind, pickKey(r))
	case 1:
		l := []string{"after", pickRev(r)}
		if r.Intn(2) == 0 {
			l = append(l, "kind", quoted(kind))
		}
		if r.Intn(2) == 0 {
			l = append(l, "limit", pickRev(r))
		}
		return ask("events", l...)
	}
	l := []string{"kind", quoted(kind)}
	sel := pickOf(r, "", "k", "!k", "k=v", "k in (v,w), l", "k==v ", "k,", "k in (w,v)")
	if r.Intn(2) == 0 {
		l = append(l, "selector", quoted(sel))
	}
	if r.Intn(2) == 0 {
		l = append(l, "limit", pickOf(r, "1", "2", "5", "500", "0"))
	}
	if r.Intn(3) == 0 {
		token, _ := feed.Token(r.Intn(12), kind, pickOf(r, sel, "", "k=v"), kind+"/"+pickKey(r))
		l = append(l, "continue", quoted(token))
	}
	return ask("list", l...)
}

// pickRequest is a request, or nearly one.
func pickRequest(r *rand.Rand) string {
	if r.Intn(5) == 0 {
		return pickRead(r)
	}
	kind, op := pickKind(r), pickOf(r, "create", "apply", "apply", "apply", "update", "update", "merge", "merge", "steps", "steps", "strategic", "strategic", "delete")
	var l []string
	if r.Intn(5) == 0 && op != "create" {
		l = append(l, "revision", pickRev(r))
	}
	if r.Intn(3) == 0 && op == "apply" {
		l = append(l, "force", pickOf(r, "true", "true", "false"))
	}
	body := pickBody(r, kind)
	switch op {
	case "delete":
		return askFor(op, kind, pickKey(r), l...)
	case "steps":
		body = pickSteps(r)
	case "strategic":
		body = pickPatch(r, kind)
	}
	return askOf(op, kind, pickKey(r), pickManager(r), body, l...)
}

// spoil changes, takes out or puts in a byte of a text.
func spoil(r *rand.Rand, s string) string {
	i := r.Intn(len(s))
	return s[:i] + pickOf(r, "", "x", "\"", "{", "\xff", " ", "1") + s[i+r.Intn(2):]
}

// pickBegin is where a counter begins: now and then shortly before its end.
func pickBegin(r *rand.Rand) int { return pickOf(r, 0, 0, 0, 0, 9007199254740991-r.Intn(15)) }

// Rows of picked requests, each of them with others between its accesses.
func TestPicked(t *testing.T) {
	r := rand.New(rand.NewSource(2301))
	met := count{}
	for range 700 {
		s, st := made(rich(), r.Intn(3)), laid(pickBegin(r))
		for range 20 {
			text := pickRequest(r)
			if r.Intn(12) == 0 {
				text = spoil(r, text)
			}
			if r.Intn(20) == 0 {
				st.Compact(r.Intn(st.Rev() + 1))
			}
			var others []string
			for range r.Intn(4) {
				others = append(others, pickRequest(r))
			}
			between := func(st *store.Store, n int) {
				if n > 0 && n <= len(others) {
					s.Do(st, []byte(others[n-1]))
				}
			}
			answer, behind := hold(t, s, st, text, between)
			met[classOf(answer)]++
			st = behind
		}
	}
	met.covers(t, words)
}

// sent is a request of a script: its flight, and its text.
type sent struct {
	f    *Flight
	text string
}

// script plays picked requests, some of them in flight at once, over a store; what was done, in the order of the ends.
func script(r *rand.Rand, s *Server, st *store.Store, n int) []sent {
	var flying, done []sent
	for n > 0 || len(flying) > 0 {
		if n > 0 && (len(flying) == 0 || len(flying) < 12 && r.Intn(3) > 0) {
			n--
			x := sent{text: pickRequest(r)}
			if x.f, _ = s.Begin([]byte(x.text)); x.f.Next() != 0 {
				flying = append(flying, x)
			}
			continue
		}
		i := r.Intn(len(flying))
		if ended, _ := flying[i].f.Step(st); ended {
			done = append(done, flying[i])
			flying = slices.Delete(flying, i, i+1)
		}
	}
	return done
}

// Whatever was in flight at once, it comes out as if each had run alone, in the order of the ends; those that are exhausted changed nothing.
func TestAsIfAlone(t *testing.T) {
	r := rand.New(rand.NewSource(2302))
	met, most := count{}, 0
	for range 1500 {
		retries := r.Intn(3)
		s, st := made(rich(), retries), laid(pickBegin(r))
		alone := twin(st)
		for _, x := range script(r, s, st, 25) {
			b, _ := x.f.Answer()
			answer := string(b)
			met[classOf(answer)]++
			most = max(most, x.f.Lost())
			if (classOf(answer) == "exhausted") != (x.f.Lost() > retries) || x.f.Lost() > retries+1 {
				t.Fatalf("P23.5: %d of %d lost: %s: %s", x.f.Lost(), retries, answer, x.text)
			}
			if classOf(answer) == "exhausted" {
				continue
			}
			if want, _ := s.Do(alone, []byte(x.text)); string(want) != answer {
				t.Fatalf("P23.7: %s, alone %s: %s", cut(answer), cut(string(want)), x.text)
			}
		}
		if !bytes.Equal(st.Bytes(), alone.Bytes()) {
			t.Fatal("P23.7: the store is another one")
		}
	}
	met.covers(t, "ok overlimit violation unfit notfound exists stale conflict expired exhausted")
	if most != 3 {
		t.Errorf("%d were lost at the most", most)
	}
}

// A reading of Apply and Update by the page's steps, for objects whose fields are all integers.

// flat is such an object, with its owners.
type flat struct {
	vals map[string]int
	has  map[owner]struct{}
	rev  int
}

// owner is who has a field, in which way.
type owner struct{ manager, way, field string }

// others are those but m who have a field.
func (o flat) others(m, field string) []owner {
	var l []owner
	for x := range o.has {
		if x.manager != m && x.field == field {
			l = append(l, x)
		}
	}
	return l
}

func (o flat) clone() flat {
	c := flat{map[string]int{}, map[owner]struct{}{}, o.rev}
	for k, v := range o.vals {
		c.vals[k] = v
	}
	for x := range o.has {
		c.has[x] = struct{}{}
	}
	return c
}

// apply is the page's Apply; the conflicts, if they hinder it.
func (o flat) apply(m string, c map[string]int, force bool) (flat, []owner) {
	to := o.clone()
	var l []owner
	for field, v := range c {
		if was, there := o.vals[field]; there && was != v {
			l = append(l, o.others(m, field)...)
		}
	}
	if len(l) > 0 && !force {
		return o, l
	}
	for _, x := range l {
		delete(to.has, x)
	}
	for x := range o.has {
		_, says := c[x.field]
		if x.manager == m && x.way == "apply" && !says && len(to.others(m, x.field)) == 0 {
			delete(to.vals, x.field)
		}
		if x.manager == m && (x.way == "apply" || says) {
			delete(to.has, x)
		}
	}
	for field, v := range c {
		to.vals[field] = v
		to.has[owner{m, "apply", field}] = struct{}{}
	}
	return to, nil
}

// write is the page's Update.
func (o flat) write(m string, n map[string]int) flat {
	to := o.clone()
	for field := range o.vals {
		if _, stays := n[field]; !stays {
			delete(to.vals, field)
		}
	}
	for x := range o.has {
		if v, stays := n[x.field]; !stays || v != o.vals[x.field] && (x.manager != m || x.way != "update") {
			delete(to.has, x)
		}
	}
	for field, v := range n {
		if was, there := o.vals[field]; !there || was != v {
			to.vals[field] = v
			to.has[owner{m, "update", field}] = struct{}{}
		}
	}
	return to
}

// fieldsText is a map of fields as a text.
func fieldsText(m map[string]int) string {
	var l []string
	for _, field := range []string{"a", "b", "c"} {
		if v, there := m[field]; there {
			l = append(l, `"`+field+`":`+strconv.Itoa(v))
		}
	}
	return "{" + strings.Join(l, ",") + "}"
}

// ownersText is owners as a text.
func ownersText(has map[owner]struct{}) string {
	var l []string
	for _, m := range []string{"m", "n", "o"} {
		for _, way := range []string{"apply", "update"} {
			var some []string
			for _, field := range []string{"a", "b", "c"} {
				if _, there := has[owner{m, way, field}]; there {
					some = append(some, `".`+field+`":{}`)
				}
			}
			if len(some) > 0 {
				l = append(l, `{"fields":{`+strings.Join(some, ",")+`},"manager":"`+m+`","way":"`+way+`"}`)
			}
		}
	}
	return "[" + strings.Join(l, ",") + "]"
}

func (o flat) text() string {
	return `{"class":"ok","owners":` + ownersText(o.has) + `,"revision":` + strconv.Itoa(o.rev) + `,"value":` + fieldsText(o.vals) + "}"
}

// flatStore is what a store of such objects holds, and its counter.
type flatStore struct {
	held map[string]flat
	rev  int
}

// put is the answer to a write of an object.
func (s *flatStore) put(name string, o flat) string {
	was, there := s.held[name]
	if !there || ownersText(was.has) != ownersText(o.has) || fieldsText(was.vals) != fieldsText(o.vals) {
		s.rev++
		o.rev = s.rev
		s.held[name] = o
	}
	return s.held[name].text()
}

// pickFields is a map of some fields.
func pickFields(r *rand.Rand) map[string]int {
	m := map[string]int{}
	for _, field := range []string{"a", "b", "c"} {
		if r.Intn(2) == 0 {
			m[field] = r.Intn(3)
		}
	}
	return m
}

// next picks a request for what the store holds: its text, and the answer.
func (s *flatStore) next(r *rand.Rand) (string, string) {
	name, m, body := pickOf(r, "x", "y"), pickOf(r, "m", "n", "o"), pickFields(r)
	was, there := s.held[name]
	op := pickOf(r, "get", "create", "apply", "apply", "apply", "apply", "update", "update", "merge", "merge", "delete")
	var more []string
	if r.Intn(4) == 0 && op != "get" && op != "create" {
		more = []string{"revision", strconv.Itoa(max(1, was.rev-r.Intn(2)))}
	}
	text, force := askOf(op, "t", name, m, fieldsText(body), more...), false
	if op == "apply" && r.Intn(3) == 0 {
		text, force = askOf(op, "t", name, m, fieldsText(body), append(more, "force", "true")...), true
	}
	if op == "get" || op == "delete" {
		text = askFor(op, "t", name, more...)
	}
	switch {
	case op == "create" && there:
		return text, plain("exists")
	case op == "create":
		return text, s.put(name, flat{}.write(m, body))
	case !there && op != "apply":
		return text, plain("notfound")
	case len(more) > 0 && more[1] != strconv.Itoa(was.rev):
		return text, staleAt(was.rev)
	case op == "get":
		return text, was.text()
	case op == "delete":
		delete(s.held, name)
		s.rev++
		return text, removedAt(s.rev)
	case op == "apply":
		o, l := was.apply(m, body, force)
		if len(l) > 0 {
			has := map[owner]struct{}{}
			for _, x := range l {
				has[x] = struct{}{}
			}
			return text, `{"class":"conflict","conflicts":` + ownersText(has) + `,"revision":` + strconv.Itoa(was.rev) + "}"
		}
		return text, s.put(name, o)
	case op == "merge":
		all := was.clone().vals
		for field, v := range body {
			all[field] = v
		}
		body = all
	}
	return text, s.put(name, was.write(m, body))
}

// Rows of requests against the page's own steps, field by field.
func TestFlat(t *testing.T) {
	sc := small()
	sc.Types[0].Fields = fieldsOf("a", "int", "b", "int", "c", "int")
	s, r, met := made(sc, 0), rand.New(rand.NewSource(2303)), count{}
	for range 600 {
		st, want := laid(0), &flatStore{held: map[string]flat{}}
		for range 30 {
			text, answer := want.next(r)
			got, e := s.Do(st, []byte(text))
			if e != 0 || string(got) != answer || st.Rev() != want.rev {
				t.Fatalf("P23.6: %s, %d, want %s: %s", got, e, answer, text)
			}
			met[classOf(answer)]++
		}
	}
	met.covers(t, "ok notfound exists stale conflict")
}

// Texts that are spoilt at each of their bytes.
func TestSpoilt(t *testing.T) {
	s, st := made(small(), 0), laid(0, "t/x", rec(`{"a":1}`, "m apply .a"))
	token, _ := feed.Token(1, "t", "a=b", "t/a")
	for _, text := range []string{askOf("apply", "t", "x", "n", `{"a":2}`, "force", "true", "revision", "1"), askOf("steps", "t", "x", "n", `[{"op":"add","path":"/a","value":2}]`), ask("list", "kind", `"t"`, "selector", `"a=b"`, "continue", quoted(token)), ask("events", "after", "0", "kind", `"t"`, "limit", "5")} {
		for i := range text {
			for _, c := range []string{"", "x", `"`, "}", "0", "\\", "\xff"} {
				holdAlone(t, s, st, text[:i]+c+text[i+1:])
			}
		}
	}
}
