package feed

import (
	"bytes"
	"strings"

	"freehold/api"
)

// Filter makes of all events those of a choice. The zero Filter is as one of all objects.
type Filter struct {
	choice choice
	rev    int
	held   map[string][]byte // the bytes of the objects in the choice
}

// NewFilter is a filter that knows of no object.
func NewFilter(kind, sel string) (*Filter, api.Errno) {
	c, e := choose(kind, sel)
	if e != api.OK {
		return nil, e
	}
	return &Filter{choice: c}, api.OK
}

// Load tells it what is chosen at a revision.
func (f *Filter) Load(l []api.Item, rev int) api.Errno {
	if f == nil {
		return api.ErrNil
	}
	if !standing(l, rev) {
		return api.ErrArg
	}
	f.rev, f.held = rev, nil
	for _, x := range l {
		if f.choice.has(x.Key, x.Data) {
			f.hold(x.Key, x.Data)
		}
	}
	return api.OK
}

// Take takes the next event: what it means for the choice.
func (f *Filter) Take(e api.Event) ([]api.Event, api.Errno) {
	if f == nil {
		return nil, api.ErrNil
	}
	if !follows(e, f.rev) {
		return nil, api.ErrFeed
	}
	f.rev = e.Rev
	was, then := f.held[e.Key]
	now := e.Kind != api.Removed && f.choice.has(e.Key, e.Data)
	told := api.Event{Rev: e.Rev, Key: e.Key}
	switch {
	case now:
		told.Kind, told.Data = api.Created, bytes.Clone(e.Data)
		if then {
			told.Kind = api.Swapped
		}
		f.hold(e.Key, e.Data)
	case then:
		told.Kind, told.Data = api.Removed, was // the filter has them no more
		delete(f.held, e.Key)
	default:
		return nil, api.OK
	}
	return []api.Event{told}, api.OK
}

// hold keeps an object, in memory of the filter's own.
func (f *Filter) hold(key string, data []byte) {
	if f.held == nil {
		f.held = map[string][]byte{}
	}
	f.held[strings.Clone(key)] = bytes.Clone(data)
}
