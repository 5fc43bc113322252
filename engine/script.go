package engine

import (
	"slices"

	"freehold/api"
	"freehold/request"
	"freehold/server"
	"freehold/store"
)

// turn makes the next access of a request in flight: its answer, and whether it has one now.
type turn func(st *store.Store) ([]byte, bool)

// script is a script being played.
type script struct {
	server *server.Server
	store  *store.Store
	depart func(f *server.Flight) turn // how the requests that are put in flight are to make their accesses
	sends  int
	flight []flying // rising by their numbers
	done   []api.Done
}

// flying is a request: its number, the move at which it came, and, in flight, its turn.
type flying struct {
	who, sent int
	turn      turn
}

// byItself is a request whose accesses are made by who plays the moves.
func byItself(f *server.Flight) turn {
	return func(st *store.Store) ([]byte, bool) {
		f.Step(st)
		return f.Answer()
	}
}

func (s *script) play(moves []api.Move) {
	for at, m := range moves {
		if m.Kind == api.MoveSend {
			s.send(at, m.Text)
		} else {
			s.pick(at, m.Who)
		}
	}
}

// playEach has each request done ahead of the next one's coming, unless that takes more moves than a script may have.
func (s *script) playEach(texts [][]byte) bool {
	at := 0
	for _, text := range texts {
		s.send(at, text)
		for at++; len(s.flight) > 0; at++ {
			s.pick(at, 0)
		}
		if at > api.MaxMoves {
			return false
		}
	}
	return true
}

// send has a request come.
func (s *script) send(at int, text []byte) {
	x := flying{who: s.sends, sent: at}
	s.sends++
	if len(s.flight) == api.MaxFlight {
		s.end(x, at, turnedAway())
		return
	}
	f, _ := s.server.Begin(text) // there is a server: there is no error to tell
	if answer, done := f.Answer(); done {
		s.end(x, at, answer)
		return
	}
	x.turn = s.depart(f)
	s.flight = append(s.flight, x)
}

// pick gives one of those in flight its turn.
func (s *script) pick(at, who int) {
	n := len(s.flight)
	if n == 0 {
		return
	}
	i := (who%n + n) % n
	x := s.flight[i]
	if answer, done := x.turn(s.store); done {
		s.flight = slices.Delete(s.flight, i, i+1)
		s.end(x, at, answer)
	}
}

// end notes that a request has its answer.
func (s *script) end(x flying, at int, answer []byte) {
	s.done = append(s.done, api.Done{Who: x.who, Sent: x.sent, At: at, Answer: answer})
}

// turnedAway is the answer to a request for which there is no room. A class alone may be an answer: there is no error to tell.
func turnedAway() []byte {
	b, _ := request.Answer(api.Answer{Class: api.ClassOverlimit})
	return b
}

// report is what the script leaves.
func (s *script) report() api.Report {
	var flight []int
	for _, x := range s.flight {
		flight = append(flight, x.who)
	}
	return api.Report{Done: s.done, Flight: flight, Store: s.store.Bytes()}
}
