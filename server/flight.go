package server

import (
	"errors"

	"freehold/api"
	"freehold/request"
	"freehold/store"
)

// Flight is a request under way. The zero Flight, which no server began, is none.
type Flight struct {
	*Server
	asked  api.Request
	typ    string                // of the objects of the kind
	follow func(was found) error // what follows from what a read of the object told
	next   access
	lost   int
	answer []byte
}

// access is a touch of the store: its number, and what makes it and works out what follows: the next one is set, or an error says how it ended.
type access struct {
	number int
	run    func(st *store.Store) error
}

// none tells whether there is no flight.
func (f *Flight) none() bool { return f == nil || f.Server == nil }

// Next is the access that comes next.
func (f *Flight) Next() int {
	if f.none() {
		return api.AccessNone
	}
	return f.next.number
}

// Step makes it; has the request its answer now?
func (f *Flight) Step(st *store.Store) (bool, api.Errno) {
	if f.none() || st == nil {
		return false, api.ErrNil
	}
	if f.next.run == nil {
		return false, api.ErrDone
	}
	f.goOn(f.next.run(st))
	return f.next.run == nil, api.OK
}

// Lost tells how many writes were lost.
func (f *Flight) Lost() int {
	if f.none() {
		return 0
	}
	return f.lost
}

// Answer is the answer, if there is one.
func (f *Flight) Answer() ([]byte, bool) {
	if f.none() || f.next.run != nil {
		return nil, false
	}
	return append([]byte(nil), f.answer...), true
}

// goOn does what the end of an access, or of the beginning, asks for.
func (f *Flight) goOn(err error) {
	if errors.Is(err, errLost) {
		err = f.again()
	}
	var end ended
	if errors.As(err, &end) {
		f.finish(end.answer)
	}
}

// again is behind a lost write. With the next access goes all that the last read told.
func (f *Flight) again() error {
	f.lost++
	if f.lost > f.retries {
		return classed(api.ClassExhausted)
	}
	f.next = access{api.AccessRead, f.read}
	return nil
}

// finish leaves nothing of a flight but its answer and what it lost. Whatever is told here is within the limits of an answer: there is no error to tell.
func (f *Flight) finish(a api.Answer) {
	b, _ := request.Answer(a)
	*f = Flight{Server: f.Server, lost: f.lost, answer: b}
}
