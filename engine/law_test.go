package engine_test

import (
	"bytes"
	"fmt"
	"math/rand"
	"slices"
	"strconv"
	"strings"
	"testing"

	"freehold/api"
	"freehold/engine"
	"freehold/feed"
)

// All scripts of a few moves, from nothing and from an object on.
func TestEveryScript(t *testing.T) {
	met := count{}
	var walk func(moves, l []api.Move, left int, start []byte)
	walk = func(moves, l []api.Move, left int, start []byte) {
		if left == 0 {
			met.add(hold(t, small(), 0, start, l))
			return
		}
		for _, m := range moves {
			walk(moves, append(l[:len(l):len(l)], m), left-1, start)
		}
	}
	for n := range 6 {
		walk(script(create(), force("n", 2), askFor("delete", "t", "x"), 0, 1), nil, n, nil)
	}
	walk(script(force("n", 2), askFor("delete", "t", "x"), 0, 1), nil, 6, laid(0, "t/x", rec(`{"a":1}`, "m apply .a")).Bytes())
	met.covers(t, "ok notfound exists exhausted")
}

// All pairs of requests, in each order of their accesses, where an object is there and where none is.
func TestEveryPair(t *testing.T) {
	asked := []string{
		create(), get(), askOf("apply", "t", "x", "n", `{"a":2}`), force("n", 2), askOf("update", "t", "x", "o", `{"a":3}`),
		askOf("merge", "t", "x", "o", `{"a":null}`), askFor("delete", "t", "x", "revision", "1"), ask("list", "kind", `"t"`), ask("events", "after", "0"),
	}
	starts := [][]byte{nil, laid(0, "t/x", rec(`{"a":1}`, "m apply .a")).Bytes()}
	met := count{}
	for _, one := range asked {
		for _, other := range asked {
			for order := range 1 << 6 {
				l := script(one, other)
				for i := range 6 {
					l = append(l, pick(order>>i&1))
				}
				for _, start := range starts {
					met.add(hold(t, small(), order&1, start, l))
				}
			}
		}
	}
	met.covers(t, "ok notfound exists stale conflict exhausted")
}

// Picked requests of the rich schema.

func pickName(r *rand.Rand) string { return pickOf(r, "x", "x", "x", "y", "z") }

func pickKind(r *rand.Rand) string { return pickOf(r, "t", "t", "t", "m", "u") }

func pickManager(r *rand.Rand) string { return pickOf(r, "m", "n", "o") }

func pickLabels(r *rand.Rand) string {
	return pickOf(r, `{}`, `{"k":"v"}`, `{"k":"w","l":"v"}`, `{"k":null}`, `{"l":"v"}`, `{"k":5}`)
}

// pickBody is the text of a value of the type, or nearly one.
func pickBody(r *rand.Rand, kind string) string {
	if kind != "t" {
		return pickLabels(r)
	}
	var l []string
	for _, s := range []string{
		`"a":` + pickOf(r, "1", "2", "null", "1", "2", `"x"`),
		`"l":` + pickOf(r, `[]`, `[{"id":1}]`, `[{"id":1,"x":"q"},{"id":2}]`, `[{"id":2,"x":"p"}]`, `[{"id":2},{"id":2}]`),
		`"labels":` + pickLabels(r),
		`"s":` + pickOf(r, `[]`, `["p"]`, `["q","p"]`, `["r"]`, `["r","r"]`),
		`"w":` + pickOf(r, `[]`, `[1]`, `[2,1]`),
	} {
		if r.Intn(3) == 0 {
			l = append(l, s)
		}
	}
	return "{" + strings.Join(l, ",") + "}"
}

// pickSteps is the text of a patch by steps, or nearly one.
func pickSteps(r *rand.Rand) string {
	var l []string
	for range r.Intn(3) {
		l = append(l, `{"op":"`+pickOf(r, "add", "add", "remove", "test", "fly")+`","path":"`+pickOf(r, "/a", "/s/-", "/l/0/x", "/labels", "/w/0")+`","value":`+pickOf(r, "1", `"p"`, `{"k":"v"}`)+"}")
	}
	return "[" + strings.Join(l, ",") + "]"
}

// pickRead is a request that does not write.
func pickRead(r *rand.Rand) string {
	kind := pickKind(r)
	switch r.Intn(3) {
	case 0:
		return askFor("get", kind, pickName(r))
	case 1:
		return ask("events", "after", strconv.Itoa(r.Intn(9)), "limit", strconv.Itoa(r.Intn(9)))
	}
	l := []string{"kind", quoted(kind)}
	if r.Intn(2) == 0 {
		l = append(l, "selector", quoted(pickOf(r, "k", "!k", "k=v", "k in (v,w)", "k,")))
	}
	if r.Intn(2) == 0 {
		l = append(l, "limit", pickOf(r, "1", "2", "0"))
	}
	if r.Intn(3) == 0 {
		token, _ := feed.Token(r.Intn(9), kind, "", kind+"/"+pickName(r))
		l = append(l, "continue", quoted(token))
	}
	return ask("list", l...)
}

// pickRequest is a request, or nearly one.
func pickRequest(r *rand.Rand) string {
	if r.Intn(6) == 0 {
		return pickRead(r)
	}
	kind, name := pickKind(r), pickName(r)
	op := pickOf(r, "create", "create", "apply", "apply", "apply", "update", "update", "merge", "steps", "strategic", "delete")
	body := pickBody(r, kind)
	var l []string
	if r.Intn(6) == 0 && op != "create" {
		l = append(l, "revision", strconv.Itoa(r.Intn(9)))
	}
	switch op {
	case "delete":
		return askFor(op, kind, name, l...)
	case "apply":
		l = append(l, "force", pickOf(r, "true", "true", "false"))
	case "steps":
		body = pickSteps(r)
	}
	text := askOf(op, kind, name, pickManager(r), body, l...)
	if r.Intn(20) == 0 { // now and then it is spoilt
		i := r.Intn(len(text))
		text = text[:i] + pickOf(r, "", "x", `"`, "{", "\xff", " ") + text[i+1:]
	}
	return text
}

// pickMoves is moves of a script in which about so many are in flight at once.
func pickMoves(r *rand.Rand, n, flying int) []api.Move {
	var l []api.Move
	for range n {
		if r.Intn(flying+3) < flying && r.Intn(2) == 0 || len(l) == 0 {
			l = append(l, send(pickRequest(r)))
		} else {
			l = append(l, pick(pickOf(r, r.Intn(8)-2, r.Int()-r.Int(), 0, 1, 1)))
		}
	}
	return l
}

// Scripts that are picked, each but the first of a row from the store that the one ahead of it left.
func TestPickedScripts(t *testing.T) {
	r := rand.New(rand.NewSource(24))
	met := count{}
	for range 300 {
		retries, start := r.Intn(3), laid(pickOf(r, 0, 0, 0, 9007199254740991-r.Intn(9))).Bytes()
		for range 4 {
			got := hold(t, rich(), retries, start, pickMoves(r, r.Intn(60), 1+r.Intn(9)))
			met.add(got)
			start = got.Store
		}
	}
	met.covers(t, words)
}

// Scripts in which so many are in flight that some are turned away.
func TestCrowdedScripts(t *testing.T) {
	r := rand.New(rand.NewSource(2401))
	away := 0
	for range 30 {
		var l []api.Move
		for range 60 {
			l = append(l, send(askOf(pickOf(r, "apply", "update"), "t", pickName(r), pickManager(r), `{}`)))
		}
		for range 300 {
			if r.Intn(5) < 3 {
				l = append(l, send(pickRequest(r)))
			} else {
				l = append(l, pick(r.Int()-r.Int()))
			}
		}
		got := hold(t, rich(), r.Intn(4), nil, l)
		calls, _ := engine.Calls(l, got)
		away += len(got.Done) - len(calls)
	}
	if away < 100 {
		t.Errorf("P24.1: just %d were turned away", away)
	}
}

// A request is done ahead of another one's coming: the order of the ends says so.
func TestRealTime(t *testing.T) {
	r := rand.New(rand.NewSource(2402))
	for range 200 {
		l := pickMoves(r, 60, 4)
		got, _ := engine.Run(rich(), 1, nil, l)
		for i, x := range got.Done {
			for _, y := range got.Done[:i] {
				if x.At < y.Sent || x.At < x.Sent {
					t.Fatalf("P24.6: %d ended at %d, %d came at %d: %s", x.Who, x.At, y.Who, y.Sent, told(l))
				}
			}
		}
	}
}

// Those answered at once change nothing, wherever they stand in the order; those in flight have changed nothing.
func TestAnywhere(t *testing.T) {
	r := rand.New(rand.NewSource(2403))
	for range 200 {
		l := pickMoves(r, 50, 6)
		got, _ := engine.Run(rich(), 2, nil, l)
		var texts, answers []string
		for _, d := range got.Done {
			at := len(texts)
			if d.At == d.Sent {
				at = r.Intn(at + 1)
			}
			if string(d.Answer) != exhausted {
				texts = slices.Insert(texts, at, string(l[d.Sent].Text))
				answers = slices.Insert(answers, at, string(d.Answer))
			}
		}
		s, e := engine.Serial(rich(), 2, nil, rows(texts))
		if e != api.OK || !bytes.Equal(s.Store, got.Store) {
			t.Fatalf("P24.5: %d, %s: %s", e, tellReport(s), told(l))
		}
		for i, d := range s.Done {
			if string(d.Answer) != answers[i] || d.Who != i {
				t.Fatalf("P24.5: %s, want %s: %s", d.Answer, answers[i], told(l))
			}
		}
	}
}

// The counter of a request's lost writes, to its end and one further, for each number of retries: others write between each read and each write.
func TestExhausted(t *testing.T) {
	for _, retries := range []int{0, 1, 2, 63, 64} {
		for _, lost := range slices.Compact([]int{0, min(1, retries), retries, retries + 1}) {
			l := script(create(), 0, askOf("update", "t", "x", "o", `{"a":9}`))
			for i := range lost { // it reads, another one writes, it loses
				l = append(l, script(0, force("n", 2+i%2), 1, 1, 0)...)
			}
			if lost <= retries {
				l = append(l, pick(0), pick(0))
			}
			got := hold(t, small(), retries, nil, l)
			last := got.Done[len(got.Done)-1]
			want := fmt.Sprintf(`{"class":"ok","owners":[{"fields":{".a":{}},"manager":"o","way":"update"}],"revision":%d,"value":{"a":9}}`, lost+2)
			if lost > retries {
				want = exhausted
			}
			if last.Who != 1 || last.At != len(l)-1 || string(last.Answer) != want || len(got.Flight) != 0 {
				t.Errorf("P24.7: %d retries, %d lost: %+v, %s", retries, lost, last, last.Answer)
			}
		}
	}
}
