package engine_test

import (
	"bytes"
	"fmt"
	"runtime"
	"slices"
	"strings"
	"sync"
	"testing"
	"time"

	"freehold/api"
	"freehold/engine"
	"freehold/schema"
	"freehold/store"
)

// player is Run or Crew.
type player func(sc api.Schema, retries int, start []byte, moves []api.Move) (api.Report, api.Errno)

func players() map[string]player {
	return map[string]player{"P24.1: Run": engine.Run, "P24.3: Crew": engine.Crew}
}

// ends is how a script ended: each request as number, moves and class.
func ends(r api.Report) string {
	var l []string
	for _, d := range r.Done {
		l = append(l, fmt.Sprintf("%d %d-%d %s", d.Who, d.Sent, d.At, classOf(d.Answer)))
	}
	return fmt.Sprint(strings.Join(l, ", "), " ", r.Flight)
}

// held is what a store's bytes hold under a key, and its revision; nothing, if there is nothing.
func held(b []byte, key string) string {
	data, rev, e := storeOf(b).Get(key)
	if e != api.OK {
		return ""
	}
	return fmt.Sprint(rev, " ", string(data))
}

func TestExamples(t *testing.T) {
	duel := script(create(), 0, force("n", 2), force("o", 3), 0, 1, 0, 1, 1, 1)
	second := `{"owners":[{"fields":{".a":{}},"manager":"n","way":"apply"}],"value":{"a":2}}`
	third := `{"owners":[{"fields":{".a":{}},"manager":"o","way":"apply"}],"value":{"a":3}}`
	for i, x := range []struct {
		moves         []api.Move
		retries       int
		ends, x, text string
	}{
		{duel[:2], 1, "0 0-1 ok []", "1 " + rec(`{"a":1}`, "m update .a"), `{"class":"ok","owners":[{"fields":{".a":{}},"manager":"m","way":"update"}],"revision":1,"value":{"a":1}}`},
		{duel[:6], 1, "0 0-1 ok [1 2]", "1 " + rec(`{"a":1}`, "m update .a"), ""},
		{duel[:7], 1, "0 0-1 ok, 1 2-6 ok [2]", "2 " + second, ""},
		{duel, 1, "0 0-1 ok, 1 2-6 ok, 2 3-9 ok []", "3 " + third, `{"class":"ok","owners":[{"fields":{".a":{}},"manager":"o","way":"apply"}],"revision":3,"value":{"a":3}}`},
		{duel, 0, "0 0-1 ok, 1 2-6 ok, 2 3-7 exhausted []", "2 " + second, exhausted},
		{script("abc"), 1, "0 0-0 malformed []", "", `{"class":"malformed"}`},
		{script(3), 1, " []", "", ""},
		{script(0, get(), 1, 0, get()), 1, "0 1-2 notfound [1]", "", `{"class":"notfound"}`},
		{nil, 1, " []", "", ""},
	} {
		r := hold(t, small(), x.retries, nil, x.moves)
		if ends(r) != x.ends || held(r.Store, "t/x") != x.x {
			t.Errorf("P24.1: the example %d: %s, %s, want %s, %s", i, ends(r), held(r.Store, "t/x"), x.ends, x.x)
		}
		if n := len(r.Done); x.text != "" && string(r.Done[n-1].Answer) != x.text {
			t.Errorf("P24.1: the example %d: %s, want %s", i, r.Done[n-1].Answer, x.text)
		}
	}
	calls, e := engine.Calls(duel[:2], hold(t, small(), 1, nil, duel[:2]))
	if e != api.OK || len(calls) != 1 || calls[0].Begin != 0 || calls[0].End != 3 || string(calls[0].Request) != create() || classOf(calls[0].Answer) != "ok" {
		t.Errorf("P24.4: the example 6: %v, %d", calls, e)
	}
}

// Which of three in flight a pick's number means, whatever the number.
func TestPlaces(t *testing.T) {
	const most, least = 1<<63 - 1, -1 << 63
	for who, want := range map[int]int{0: 1, 1: 2, 2: 3, 3: 1, 4: 2, -1: 3, -2: 2, -3: 1, -4: 3, most: 2, most - 1: 1, least: 2, least + 1: 3, least + 2: 1} {
		// the first is done ahead, so the numbers are not the places
		r := hold(t, small(), 1, nil, script(get(), 0, get(), get(), get(), who))
		if len(r.Done) != 2 || r.Done[1].Who != want || r.Done[1].At != 5 {
			t.Errorf("P24.1: the pick of %d: %s, want %d", who, ends(r), want)
		}
	}
	r := hold(t, small(), 1, nil, script(5, -1, most, least, get(), least))
	if ends(r) != "0 4-5 notfound []" {
		t.Errorf("P24.1: picks with none in flight: %s", ends(r))
	}
}

// The bound of those in flight, from both sides.
func TestFlight(t *testing.T) {
	full := script(many(64, send(get())))
	for i, x := range []struct {
		moves []api.Move
		done  string
		left  int
	}{
		{full, "", 64},
		{script(full, get()), "64 64-64 overlimit", 64},
		{script(full, "abc", strings.Repeat(" ", 1048577)), "64 64-64 overlimit, 65 65-65 overlimit", 64},
		{script(full[1:], "abc", get(), "abc"), "63 63-63 malformed, 65 65-65 overlimit", 64},
		{script(full, 64, "abc"), "0 64-64 notfound", 63}, // told below: the pick is at 64
		{script(full, get(), -1, get(), get()), "64 64-64 overlimit, 63 63-65 notfound, 66 67-67 overlimit", 64},
	} {
		r := hold(t, small(), 0, nil, x.moves)
		if i == 4 {
			x.done = "0 0-64 notfound, 64 65-65 malformed"
		}
		got, _, _ := strings.Cut(ends(r), " [")
		if got != x.done || len(r.Flight) != x.left {
			t.Errorf("P24.1: the crowd %d: %s, want %s and %d in flight", i, ends(r), x.done, x.left)
		}
		for _, d := range r.Done {
			if classOf(d.Answer) == "overlimit" && string(d.Answer) != overlimit {
				t.Errorf("P24.1: turned away: %s", d.Answer)
			}
		}
	}
}

// The order of the errors: each wrong thing alone, and with all that are looked for behind it.
func TestErrors(t *testing.T) {
	noSchema := api.Schema{Roots: []api.Root{{Kind: "t", Type: "t"}}}
	wrong := schema.Check(noSchema)
	bad := []api.Move{{Kind: 3}}
	unsound := laid(0, "t/x", "nothing").Bytes()
	for i, x := range []struct {
		sc      api.Schema
		retries int
		start   []byte
		moves   []api.Move
		want    api.Errno
	}{
		{small(), 65, nil, nil, api.ErrArg},
		{small(), -1, nil, nil, api.ErrArg},
		{noSchema, 65, []byte("x"), bad, api.ErrArg},
		{noSchema, 0, nil, nil, wrong},
		{noSchema, 0, []byte("x"), bad, wrong},
		{small(), 0, nil, bad, api.ErrScript},
		{small(), 0, []byte("x"), bad, api.ErrScript},
		{small(), 0, unsound, bad, api.ErrScript},
		{small(), 0, nil, []api.Move{{Kind: 1}, {Kind: 2}, {Kind: 0}}, api.ErrScript},
		{small(), 0, nil, []api.Move{{Kind: -1}, {Kind: 1}}, api.ErrScript},
		{small(), 0, nil, []api.Move{{Kind: 1}, {Kind: 1 << 32}}, api.ErrScript},
		{small(), 0, nil, many(65537, pick(0)), api.ErrScript},
		{small(), 0, []byte("x"), many(65537, send("abc")), api.ErrScript},
		{small(), 0, []byte("x"), script(get(), 0), api.ErrImage},
		{small(), 0, []byte{0}, nil, api.ErrImage},
		{small(), 0, unsound[:len(unsound)-1], nil, api.ErrImage},
		{small(), 0, unsound, script(get(), 0), api.ErrStart},
		{small(), 0, []byte{}, script(get(), 0), api.OK},
		{small(), 64, nil, many(65536, pick(0)), api.OK},
		{api.Schema{}, 0, nil, script(get(), create()), api.OK},
	} {
		for name, play := range players() {
			r, e := play(x.sc, x.retries, x.start, x.moves)
			if e != x.want || e != api.OK && !same(r, api.Report{}) {
				t.Errorf("%s: the error %d: %d, %s, want %d", name, i, e, tellReport(r), x.want)
			}
		}
	}
}

func TestErrorsOfSerial(t *testing.T) {
	noSchema := api.Schema{Roots: []api.Root{{Kind: "t", Type: "t"}}}
	unsound := laid(0, "t/x", "nothing").Bytes()
	long := slices.Repeat(rows([]string{"abc"}), 65537)
	for i, x := range []struct {
		sc      api.Schema
		retries int
		start   []byte
		texts   [][]byte
		want    api.Errno
	}{
		{noSchema, 65, []byte("x"), long, api.ErrArg},
		{small(), -1, nil, nil, api.ErrArg},
		{noSchema, 0, []byte("x"), long, schema.Check(noSchema)},
		{small(), 0, []byte("x"), nil, api.ErrImage},
		{small(), 0, unsound, nil, api.ErrStart},
		{small(), 0, nil, long, api.ErrScript},
		{small(), 0, nil, long[1:], api.OK},
		{small(), 0, nil, nil, api.OK},
	} {
		r, e := engine.Serial(x.sc, x.retries, x.start, x.texts)
		if e != x.want || e != api.OK && !same(r, api.Report{}) {
			t.Errorf("P24.2: the error %d: %d, %s, want %d", i, e, tellReport(r), x.want)
		}
	}
}

// Serial of just as many moves as a script may have, and of more.
func TestMostMovesOfSerial(t *testing.T) {
	gets, nones := rows(slices.Repeat([]string{get()}, 32769)), rows([]string{"abc", "abc"})
	for i, x := range []struct {
		texts [][]byte
		moves int // they take
	}{
		{gets[:32768], 65536},
		{slices.Concat(gets[:32767], nones), 65536},
		{slices.Concat(nones[:1], gets[:32767]), 65535},
		{slices.Concat(gets[:32768], nones[:1]), 65537},
		{slices.Concat(nones[:1], gets[:32768]), 65537},
		{gets[:32769], 65538},
	} {
		r, e := engine.Serial(small(), 0, nil, x.texts)
		switch {
		case x.moves > mostMoves && (e != api.ErrScript || !same(r, api.Report{})):
			t.Errorf("P24.2: the texts %d, %d moves: %d", i, x.moves, e)
		case x.moves <= mostMoves && (e != api.OK || len(r.Done) != len(x.texts) || r.Done[len(r.Done)-1].At != x.moves-1):
			t.Errorf("P24.2: the texts %d, %d moves: %d, %d done", i, x.moves, e, len(r.Done))
		}
	}
}

// Serial of requests that take one, two and no accesses: where each comes and ends.
func TestSerial(t *testing.T) {
	texts := []string{"abc", create(), force("n", 2), force("n", 2), get(), "abc", askFor("delete", "t", "x"), askFor("delete", "t", "x")}
	r, e := engine.Serial(small(), 0, nil, rows(texts))
	want := "0 0-0 malformed, 1 1-2 ok, 2 3-5 ok, 3 6-7 ok, 4 8-9 ok, 5 10-10 malformed, 6 11-13 ok, 7 14-15 notfound []"
	if e != api.OK || ends(r) != want || held(r.Store, "t/x") != "" || storeOf(r.Store).Rev() != 3 {
		t.Errorf("P24.2: %d, %s, want %s", e, ends(r), want)
	}
	if r, e := engine.Serial(small(), 0, nil, nil); e != api.OK || !same(r, api.Report{Store: laid(0).Bytes()}) {
		t.Errorf("P24.2: of no texts: %d, %s", e, tellReport(r))
	}
}

// Starts that are sound, and such as are not for one thing alone.
func TestStart(t *testing.T) {
	x := rec(`{"a":1}`, "m apply .a")
	past := func(l ...string) *store.Store { // things that were there and are not any more
		st := laid(0, l...)
		for i := 0; i < len(l); i += 2 {
			_, rev, _ := st.Get(l[i])
			st.Remove(l[i], rev)
		}
		return st
	}
	forgotten := func(st *store.Store, rev int) *store.Store {
		st.Compact(rev)
		return st
	}
	swapped := laid(0, "t/x", "nothing")
	swapped.Swap("t/x", 1, []byte(x))
	for i, c := range []struct {
		st   *store.Store
		want api.Errno
	}{
		{laid(0), api.OK},
		{laid(77), api.OK},
		{laid(0, "t/x", x, "t/"+strings.Repeat("n", 64), rec(`{}`)), api.OK},
		{past("t/x", x), api.OK},
		{laid(0, "u/x", x), api.ErrStart},
		{laid(0, "t", x), api.ErrStart},
		{laid(0, "tx", x), api.ErrStart},
		{laid(0, "/x", x), api.ErrStart},
		{laid(0, "t/", x), api.ErrStart},
		{laid(0, "t/x/y", x), api.ErrStart},
		{laid(0, "t//x", x), api.ErrStart},
		{laid(0, "t/X\x00", x), api.ErrStart},
		{laid(0, "t/"+strings.Repeat("n", 65), x), api.ErrStart},
		{laid(0, "t/x", ""), api.ErrStart},
		{laid(0, "t/x", "nothing"), api.ErrStart},
		{laid(0, "t/x", x+" "), api.ErrStart},
		{laid(0, "t/x", rec(`{"b":1}`)), api.ErrStart},
		{laid(0, "t/x", rec(`{"a":null}`)), api.ErrStart},
		{laid(0, "t/x", rec(`{"a":1}`, "m apply .b")), api.ErrStart},
		{laid(0, "t/x", rec(`{}`, "m apply .a")), api.ErrStart},
		{laid(0, "t/x", x, "t/y", "nothing"), api.ErrStart},
		{laid(0, "t/x", "nothing", "t/y", x), api.ErrStart},
		{swapped, api.ErrStart},
		{forgotten(swapped, 1), api.ErrStart},
		{past("t/x", "nothing"), api.ErrStart},
		{forgotten(past("t/x", x, "u/x", x), 2), api.ErrStart},
		{forgotten(past("t/x", x, "u/x", x), 3), api.ErrStart},
		{forgotten(past("t/x", x, "u/x", x), 4), api.OK},
	} {
		for name, play := range players() {
			if r, e := play(small(), 0, c.st.Bytes(), nil); e != c.want || e != api.OK && !same(r, api.Report{}) || e == api.OK && !same(r, api.Report{Store: c.st.Bytes()}) {
				t.Errorf("%s: the start %d: %d, %s, want %d", name, i, e, tellReport(r), c.want)
			}
		}
		if _, e := engine.Serial(small(), 0, c.st.Bytes(), nil); e != c.want {
			t.Errorf("P24.2: the start %d: %d, want %d", i, e, c.want)
		}
	}
	twice := forgotten(laid(0, "t/x", "nothing"), 1)
	twice.Swap("t/x", 1, []byte(x))
	if _, e := engine.Run(small(), 0, forgotten(twice, 2).Bytes(), nil); e != api.OK {
		t.Errorf("P24.1: what is forgotten counts: %d", e)
	}
}

// The last of as many objects, and of as many events, as a store can have.
func TestLastOfStart(t *testing.T) {
	full := laid(0)
	for i := range api.MaxObjects {
		full.Create(fmt.Sprintf("t/n%04d", i), []byte(rec(`{}`)))
	}
	for i, key := range []string{"t/n4095", "t/n0000"} {
		st := storeOf(full.Bytes())
		_, rev, _ := st.Get(key)
		rev, _ = st.Swap(key, rev, []byte("nothing"))
		st.Compact(rev)
		if _, e := engine.Run(small(), 0, st.Bytes(), nil); e != api.ErrStart {
			t.Errorf("P24.1: the object %d of a full store: %d", i, e)
		}
	}
	st := laid(0)
	for range api.MaxPast/2 - 1 {
		rev, _ := st.Create("t/x", []byte(rec(`{}`)))
		st.Remove("t/x", rev)
	}
	st.Create("t/x", []byte(rec(`{}`)))
	for i, want := range []api.Errno{api.OK, api.ErrStart, api.ErrStart} { // the last of 65535, 65536, and 65537 of which the first is forgotten
		if _, e := engine.Run(small(), 0, st.Bytes(), nil); e != want {
			t.Errorf("P24.1: the last event %d: %d, want %d", i, e, want)
		}
		st.Create(fmt.Sprintf("t/y%d", i), []byte([]string{"nothing", rec(`{}`), rec(`{}`)}[i]))
	}
}

// A script goes on where a store left off, its counter and its past.
func TestGoesOn(t *testing.T) {
	st := laid(8, "t/x", rec(`{"a":1}`, "m apply .a"))
	r := hold(t, small(), 0, st.Bytes(), script(askOf("update", "t", "x", "o", `{"a":5}`), 0, 0, ask("events", "after", "8"), 0, ask("events", "after", "7"), 0))
	if ends(r) != "0 0-2 ok, 1 3-4 ok, 2 5-6 expired []" || !strings.Contains(string(r.Done[0].Answer), `"revision":10,`) || strings.Count(string(r.Done[1].Answer), `"key"`) != 2 {
		t.Errorf("P24.1: %s", tellReport(r))
	}
}

// A counter that is worn, and a store that is full: refused, not lost.
func TestWornAndFull(t *testing.T) {
	worn := laid(9007199254740990).Bytes()
	r := hold(t, small(), 0, worn, script(create(), 0, force("n", 2), 0, 0, askFor("delete", "t", "x"), 0, 0, get(), 0))
	if ends(r) != "0 0-1 ok, 1 2-4 overlimit, 2 5-7 overlimit, 3 8-9 ok []" || storeOf(r.Store).Rev() != 9007199254740991 {
		t.Errorf("P24.1: a worn counter: %s", ends(r))
	}
	full := laid(0)
	for i := range api.MaxObjects {
		full.Create(fmt.Sprintf("t/n%d", i), []byte(rec(`{}`)))
	}
	r = hold(t, small(), 0, full.Bytes(), script(create(), 0, force("n", 2), 0, 0, askFor("delete", "t", "n7"), 0, 0, create(), 0))
	if ends(r) != "0 0-1 overlimit, 1 2-4 overlimit, 2 5-7 ok, 3 8-9 ok []" {
		t.Errorf("P24.1: a full store: %s", ends(r))
	}
}

// What is handed in stays as it is, spare room too, and is not kept.
func TestHandedIn(t *testing.T) {
	room := func(s string) []byte { return append(make([]byte, 0, len(s)+9), s...) }
	image := string(laid(0, "t/y", rec(`{"a":1}`, "m apply .a")).Bytes())
	for name, play := range players() {
		start := room(image)
		moves := make([]api.Move, 0, 20)
		for _, m := range script(create(), 0, force("n", 2), get(), "abc", 0, 1, 0, get()) {
			moves = append(moves, api.Move{Kind: m.Kind, Who: m.Who, Text: room(string(m.Text))})
		}
		before := slices.Clone(moves[:cap(moves)])
		for i, m := range before {
			before[i].Text = slices.Clone(m.Text[:cap(m.Text)])
		}
		r, _ := play(small(), 1, start, moves)
		want := tellReport(r)
		for i, m := range moves[:cap(moves)] {
			if m.Kind != before[i].Kind || m.Who != before[i].Who || !bytes.Equal(m.Text[:cap(m.Text)], before[i].Text) {
				t.Errorf("%s: the move %d was changed", name, i)
			}
			scribble(m.Text)
		}
		if string(start) != image || !bytes.Equal(start[len(start):cap(start)], make([]byte, cap(start)-len(start))) {
			t.Errorf("%s: the start was changed", name)
		}
		scribble(start)
		if got := tellReport(r); got != want {
			t.Errorf("%s: what was handed in is kept: %s, want %s", name, got, want)
		}
	}
}

// scribble writes over bytes and the room behind them.
func scribble(b []byte) {
	b = b[:cap(b)]
	for i := range b {
		b[i] = '!'
	}
}

// What is written into an answer is seen in no other one.
func TestAnswers(t *testing.T) {
	moves := script(many(66, send(get())), 0, 0, "abc", "abc", create(), 3, 3, 3)
	for name, play := range players() {
		want, _ := play(small(), 1, nil, moves)
		for i := range want.Done {
			got, _ := play(small(), 1, nil, moves)
			scribble(got.Done[i].Answer)
			got.Done[i].Answer = want.Done[i].Answer
			if !same(got, want) {
				t.Errorf("%s: the answer %d shares memory", name, i)
			}
		}
		got, _ := play(small(), 1, nil, moves)
		scribble(got.Store)
		for i := range got.Flight[:cap(got.Flight)] {
			got.Flight[:cap(got.Flight)][i] = -7
		}
		clear(got.Done[len(got.Done):cap(got.Done)])
		if again, _ := play(small(), 1, nil, moves); !same(again, want) || !same(got.Done, want.Done) {
			t.Errorf("%s: a report shares memory", name)
		}
	}
}

// No goroutine is left, whatever is in flight in the end.
func TestNothingLeft(t *testing.T) {
	before := runtime.NumGoroutine()
	for _, moves := range [][]api.Move{
		nil, script(get()), script(get(), 0), script(many(64, send(get()))), script(many(70, send(force("n", 2))), 3, 3, 9), script(create(), "abc", 0), {{Kind: 3}}, many(65537, send(get())),
	} {
		engine.Crew(small(), 1, nil, moves)
		for range 1000 {
			if runtime.NumGoroutine() <= before {
				break
			}
			time.Sleep(time.Millisecond)
		}
		if n := runtime.NumGoroutine(); n > before {
			t.Fatalf("P24.3: %d goroutines are left: %s", n-before, told(moves))
		}
	}
}

// It has seen them end when it answers, not just told them to: of those in flight hardly one is seen on its last way out.
func TestSeenToEnd(t *testing.T) {
	before := runtime.NumGoroutine()
	var left []int
	for range 101 {
		engine.Crew(small(), 1, nil, script(many(64, send(get()))))
		left = append(left, runtime.NumGoroutine()-before)
	}
	slices.Sort(left)
	if left[50] > 32 {
		t.Errorf("P24.3: goroutines that are left: %v", left)
	}
}

// most is the greatest number of goroutines that were seen while something was done.
func most(do func()) int {
	n := 0
	before := runtime.NumGoroutine()
	over := make(chan struct{})
	go func() {
		defer close(over)
		do()
	}()
	for {
		select {
		case <-over:
			return n
		default:
			n = max(n, runtime.NumGoroutine()-before)
			runtime.Gosched()
		}
	}
}

// Crew has a goroutine for each that is in flight, and no more.
func TestOneEach(t *testing.T) {
	n := most(func() { engine.Crew(small(), 1, nil, script(many(64, send(get())), many(65000, send("abc")))) })
	if n < 60 || n > 200 { // the number is not told exactly
		t.Errorf("P24.3: %d goroutines at the most, for 64 in flight", n)
	}
}

// Calls beside one another share nothing.
func TestBeside(t *testing.T) {
	moves := script(create(), 0, force("n", 2), force("o", 3), get(), 0, 1, 0, 1, 1, 1, get())
	start := laid(0, "t/y", rec(`{"a":1}`, "m apply .a")).Bytes()
	sc := small()
	want, _ := engine.Run(sc, 1, start, moves)
	var all sync.WaitGroup
	for range 20 {
		for name, play := range players() {
			all.Go(func() {
				if got, e := play(sc, 1, start, moves); e != api.OK || !same(got, want) {
					t.Errorf("%s: beside others: %d, %s", name, e, tellReport(got))
				}
			})
		}
	}
	all.Wait()
}
