package engine

import (
	"slices"

	"freehold/api"
)

// Calls is what was seen from outside.
func Calls(moves []api.Move, r api.Report) ([]api.Call, api.Errno) {
	sends := sendsOf(moves)
	ends, ok := endsOf(sends, len(moves), r)
	if !ok {
		return nil, api.ErrScript
	}
	crowds := crowdsOf(sends, ends, len(moves))
	done := slices.Clone(r.Done)
	slices.SortFunc(done, func(x, y api.Done) int { return x.Who - y.Who })
	var l []api.Call
	for _, d := range done {
		if d.At == d.Sent && crowds[d.Sent] >= api.MaxFlight { // it was turned away
			continue
		}
		l = append(l, api.Call{Begin: 2 * d.Sent, End: 2*d.At + 1, Request: slices.Clone(moves[d.Sent].Text), Answer: slices.Clone(d.Answer)})
	}
	return l, api.OK
}

// sendsOf is the places at which the requests come.
func sendsOf(moves []api.Move) []int {
	var l []int
	for at, m := range moves {
		if m.Kind == api.MoveSend {
			l = append(l, at)
		}
	}
	return l
}

// unnamed is the end of a request of which a report says nothing.
const unnamed = -1

// endsOf is where each request ends by a report that may be, behind the last move that of one in flight.
func endsOf(sends []int, moves int, r api.Report) ([]int, bool) {
	ends := slices.Repeat([]int{unnamed}, len(sends))
	for _, d := range r.Done {
		if !isFresh(ends, d.Who) || d.Sent != sends[d.Who] || d.At < d.Sent || d.At >= moves {
			return nil, false
		}
		ends[d.Who] = d.At
	}
	for _, who := range r.Flight {
		if !isFresh(ends, who) {
			return nil, false
		}
		ends[who] = moves
	}
	return ends, true
}

// isFresh tells whether a number is that of a request that came and was not named yet.
func isFresh(ends []int, who int) bool {
	return who >= 0 && who < len(ends) && ends[who] == unnamed
}

// crowdsOf is how many requests are under way at each move: they came at an earlier one, and end at a later one.
func crowdsOf(sends, ends []int, moves int) []int {
	l := make([]int, moves+1) // first, by how many there are more than at the move ahead
	for who, sent := range sends {
		if first := sent + 1; first < ends[who] {
			l[first]++
			l[ends[who]]--
		}
	}
	for at := 1; at < len(l); at++ {
		l[at] += l[at-1]
	}
	return l
}
