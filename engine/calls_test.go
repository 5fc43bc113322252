package engine_test

import (
	"math/rand"
	"slices"
	"testing"

	"freehold/api"
	"freehold/engine"
)

// done is the ends of requests: number, coming and end, three numbers each.
func done(l ...int) []api.Done {
	var to []api.Done
	for i := 0; i < len(l); i += 3 {
		to = append(to, api.Done{Who: l[i], Sent: l[i+1], At: l[i+2], Answer: []byte{'a', byte('0' + l[i]%10)}})
	}
	return to
}

// Reports that may be, and such as may not for one thing alone.
func TestCallsErrors(t *testing.T) {
	moves := script(0, "p", "q", 0, "r", 0)
	for i, x := range []struct {
		done   []api.Done
		flight []int
		want   api.Errno
	}{
		{nil, nil, api.OK},
		{done(0, 1, 1, 1, 2, 5, 2, 4, 4), nil, api.OK},
		{done(1, 2, 3), []int{2, 0}, api.OK},
		{nil, []int{0, 1, 2}, api.OK},
		{done(2, 4, 5, 0, 1, 5, 1, 2, 5), nil, api.OK}, // no script's, but that is not asked
		{done(-1, 1, 1), nil, api.ErrScript},
		{done(3, 4, 5), nil, api.ErrScript},
		{done(3, 0, 0), nil, api.ErrScript},
		{nil, []int{3}, api.ErrScript},
		{nil, []int{-1}, api.ErrScript},
		{nil, []int{1 << 62}, api.ErrScript},
		{nil, []int{-1 << 63}, api.ErrScript},
		{nil, []int{0, 1, 0}, api.ErrScript},
		{done(0, 1, 3), []int{0}, api.ErrScript},
		{done(0, 1, 3, 0, 1, 3), nil, api.ErrScript},
		{done(0, 1, 3, 1, 2, 3, 0, 1, 4), nil, api.ErrScript},
		{done(0, 0, 3), nil, api.ErrScript},
		{done(0, 2, 3), nil, api.ErrScript},
		{done(1, 1, 3), nil, api.ErrScript},
		{done(0, 1, 0), nil, api.ErrScript},
		{done(0, 1, -1), nil, api.ErrScript},
		{done(2, 4, 3), nil, api.ErrScript},
		{done(0, 1, 6), nil, api.ErrScript},
		{done(0, 1, 1<<62), nil, api.ErrScript},
		{done(0, 1, -1<<63), nil, api.ErrScript},
		{done(0, 1, 1, 1, 2, 6), nil, api.ErrScript},
	} {
		r := api.Report{Done: x.done, Flight: x.flight}
		l, e := engine.Calls(moves, r)
		if want, e2 := seen(moves, r); e2 != x.want || e != x.want || !same(l, want) {
			t.Errorf("P24.4: the report %d: %d, %v, want %d, %v", i, e, l, x.want, want)
		}
	}
	early := script("p", "q") // whose ends are at the first moves
	for _, r := range []api.Report{{Done: done(0, 0, 0, 0, 0, 0)}, {Done: done(0, 0, 1, 0, 0, 1)}, {Done: done(1, 1, 1, 1, 1, 1)}, {Done: done(0, 0, 0), Flight: []int{0}}, {Done: done(0, 0, 1), Flight: []int{1, 0}}} {
		if l, e := engine.Calls(early, r); e != api.ErrScript || l != nil {
			t.Errorf("P24.4: one named twice: %v, %d", l, e)
		}
	}
	for _, r := range []api.Report{{Done: done(0, 0, 0)}, {Flight: []int{0}}} {
		for _, moves := range [][]api.Move{nil, script(0, 1), {{Kind: 3}}} {
			if l, e := engine.Calls(moves, r); e != api.ErrScript || l != nil {
				t.Errorf("P24.4: without requests: %v, %d", l, e)
			}
		}
	}
	if l, e := engine.Calls(nil, api.Report{}); e != api.OK || len(l) != 0 {
		t.Errorf("P24.4: of nothing: %v, %d", l, e)
	}
}

// Calls stand by their numbers, whatever the order of their ends.
func TestCallsOrder(t *testing.T) {
	moves := script("p", "q", "r", 0, 0, 0)
	l, e := engine.Calls(moves, api.Report{Done: done(2, 2, 3, 0, 0, 4, 1, 1, 5)})
	want := []api.Call{
		{Begin: 0, End: 9, Request: []byte("p"), Answer: []byte("a0")},
		{Begin: 2, End: 11, Request: []byte("q"), Answer: []byte("a1")},
		{Begin: 4, End: 7, Request: []byte("r"), Answer: []byte("a2")},
	}
	if e != api.OK || !same(l, want) {
		t.Errorf("P24.4: %d, %v, want %v", e, l, want)
	}
}

// One that was done as it came was turned away, if MaxFlight others were in flight, and not if one fewer was.
func TestCallsTurnedAway(t *testing.T) {
	for _, others := range []int{0, 1, 63, 64, 65, 70} {
		moves := script(many(others, send("p")), "q", many(80, pick(0)), "r")
		for later := range others + 1 { // so many of the others are done later, the rest is in flight
			r := api.Report{Done: done(others, others, others)}
			for who := range others {
				if who < later {
					r.Done = append(r.Done, done(who, who, others+1+who)...)
				} else {
					r.Flight = append(r.Flight, who)
				}
			}
			l, e := engine.Calls(moves, r)
			told := slices.ContainsFunc(l, func(c api.Call) bool { return string(c.Request) == "q" })
			if e != api.OK || told != (others < 64) {
				t.Errorf("P24.4: beside %d, %d of them done later: %d, told %v", others, later, e, told)
			}
			holdCalls(t, moves, r)
		}
	}
}

// Those that were done ahead, that came later, or of which nothing is said do not count; one that was picked was not turned away.
func TestCallsNotTurnedAway(t *testing.T) {
	moves := script(many(64, send("p")), 0, "q", many(64, send("p")), 0)
	var flight []int
	for who := range 63 {
		flight = append(flight, who)
	}
	last := len(moves) - 1
	for i, x := range []struct {
		r    api.Report
		told int
	}{
		{api.Report{Flight: append(flight[:63:63], 63), Done: done(64, 65, 65)}, 0},
		{api.Report{Flight: append(flight[:63:63], 63), Done: done(64, 65, 66)}, 1},
		{api.Report{Flight: append(flight[:63:63], 63), Done: done(64, 65, last)}, 1},
		{api.Report{Flight: flight, Done: done(63, 63, 64, 64, 65, 65)}, 2},
		{api.Report{Flight: flight, Done: done(63, 63, 65, 64, 65, 65)}, 2},
		{api.Report{Flight: flight, Done: done(63, 63, 66, 64, 65, 65)}, 1},
		{api.Report{Flight: append(flight[:63:63], 65), Done: done(64, 65, 65)}, 1},
		{api.Report{Flight: flight, Done: done(64, 65, 65)}, 1},
		{api.Report{Flight: flight, Done: done(64, 65, 65, 70, 71, last)}, 2},
	} {
		l, e := engine.Calls(moves, x.r)
		if e != api.OK || len(l) != x.told {
			t.Errorf("P24.4: the report %d: %d, %d calls, want %d", i, e, len(l), x.told)
		}
		holdCalls(t, moves, x.r)
	}
}

// Reports that are picked, right and wrong, against the second reading.
func TestCallsPicked(t *testing.T) {
	r := rand.New(rand.NewSource(244))
	met := map[api.Errno]int{}
	for range 3000 {
		var moves []api.Move
		var came []int
		for at := range r.Intn(300) {
			if r.Intn(2) == 0 {
				moves, came = append(moves, send(string(rune('a'+at%26)))), append(came, at)
			} else {
				moves = append(moves, pick(0))
			}
		}
		var report api.Report
		for _, who := range r.Perm(len(came)) {
			left := len(moves) - came[who]
			switch at := came[who] + r.Intn(left)*r.Intn(2); r.Intn(4) {
			case 0:
				report.Flight = append(report.Flight, who)
			case 1, 2:
				report.Done = append(report.Done, done(who, came[who], at)...)
			}
		}
		if n := len(report.Done); n > 0 && r.Intn(3) == 0 {
			x := &report.Done[r.Intn(n)]
			*pickOf(r, &x.Who, &x.Sent, &x.At) += r.Intn(5) - 2
		}
		_, e := engine.Calls(moves, report)
		met[e]++
		holdCalls(t, moves, report)
	}
	if met[api.OK] < 1000 || met[api.ErrScript] < 300 || len(met) != 2 {
		t.Errorf("P24.4: met %v", met)
	}
}

// What is handed in stays as it is and is not kept; calls share nothing.
func TestCallsMemory(t *testing.T) {
	make2 := func() ([]api.Move, api.Report) {
		moves := script("p", "p", "p")
		return moves, api.Report{Done: append(make([]api.Done, 0, 9), done(2, 2, 2, 1, 1, 1, 0, 0, 0)...), Flight: make([]int, 0, 4)}
	}
	moves, r := make2()
	want, _ := engine.Calls(make2())
	got, _ := engine.Calls(moves, r)
	moves2, r2 := make2()
	if !same(moves, moves2) || !same(r, r2) || !same(r.Done[:9], r2.Done[:9]) {
		t.Errorf("P24.4: what was handed in was changed: %v", r)
	}
	for i := range 3 {
		scribble(moves[i].Text)
		scribble(r.Done[i].Answer)
	}
	if !same(got, want) {
		t.Errorf("P24.4: what was handed in is kept: %v", got)
	}
	for i := range got {
		again, _ := engine.Calls(make2())
		scribble(again[i].Request)
		if string(again[i].Answer) != string(want[i].Answer) {
			t.Errorf("P24.4: the call %d shares memory with itself", i)
		}
		scribble(again[i].Answer)
		again[i] = want[i]
		if !same(again, want) {
			t.Errorf("P24.4: the call %d shares memory", i)
		}
	}
}

// As many calls as a script can have take no long time.
func TestCallsMany(t *testing.T) {
	moves := many(mostMoves, send("p"))
	var r api.Report
	for who := mostMoves - 1; who >= 0; who-- {
		r.Done = append(r.Done, api.Done{Who: who, Sent: who, At: mostMoves - 1})
	}
	if l, e := engine.Calls(moves, r); e != api.OK || len(l) != mostMoves { // the last one came when all others end, not ahead of that
		t.Errorf("P24.4: %d, %d calls", e, len(l))
	}
}
