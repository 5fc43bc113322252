package engine

import (
	"sync"

	"freehold/server"
	"freehold/store"
)

// crew is the goroutines of the requests in flight. Who has the store has the turn: it goes to one of them, and what came of it comes back ahead of the next one's.
type crew struct {
	flying sync.WaitGroup
	back   chan came
	done   chan struct{} // closed when the script is over
}

// came is what came of a turn: the answer, and whether there is one.
type came struct {
	answer []byte
	done   bool
}

func newCrew() *crew {
	return &crew{back: make(chan came), done: make(chan struct{})}
}

// depart has a request fly in a goroutine of its own.
func (c *crew) depart(f *server.Flight) turn {
	turns := make(chan *store.Store)
	c.flying.Add(1)
	go c.fly(f, turns)
	return func(st *store.Store) ([]byte, bool) {
		turns <- st
		x := <-c.back
		return x.answer, x.done
	}
}

// fly is a request's way from turn to turn, to its answer or to the end of the script.
func (c *crew) fly(f *server.Flight, turns <-chan *store.Store) {
	defer c.flying.Done()
	for {
		select {
		case st := <-turns:
			f.Step(st)
			answer, done := f.Answer()
			c.back <- came{answer, done}
			if done {
				return
			}
		case <-c.done:
			return
		}
	}
}

// dismiss ends all that are still in flight, and sees them end.
func (c *crew) dismiss() {
	close(c.done)
	c.flying.Wait()
}
