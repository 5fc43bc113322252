package store

import (
	"maps"
	"slices"
	"strings"

	"freehold/api"
)

// object is what a key has, and the revision of the write that gave it that. Bytes are kept as a string: whatever a caller does with those that came in or went out, these stay.
type object struct {
	rev  int
	data string
}

// objects is a state: the objects that are there, by their keys.
type objects map[string]object

// event is a write; its revision is told by its place among the others.
type event struct {
	kind      int
	key, data string
}

// follow carries events out upon the state as of the revision ahead of theirs.
func (o objects) follow(rev int, l ...event) {
	for _, x := range l {
		rev++
		if x.kind == api.Removed {
			delete(o, x.key)
		} else {
			o[x.key] = object{rev: rev, data: x.data}
		}
	}
}

// keys is the keys that begin with a prefix and are not ahead of one, rising.
func (o objects) keys(prefix, from string) []string {
	var l []string
	for key := range o {
		if strings.HasPrefix(key, prefix) && key >= from {
			l = append(l, key)
		}
	}
	slices.Sort(l)
	return l
}

// List answers keys with a prefix, from one on, as of a revision.
func (s *Store) List(rev int, prefix, from string, most int) ([]api.Item, api.Errno) {
	if e := s.checkPast(rev, most); e != api.OK {
		return nil, e
	}
	state := s.asOf(rev)
	keys := state.keys(prefix, from)
	var l []api.Item
	for _, key := range keys[:min(most, len(keys))] {
		o := state[key]
		l = append(l, api.Item{Key: key, Rev: o.rev, Data: []byte(o.data)})
	}
	return l, api.OK
}

// Events answers the writes behind a revision.
func (s *Store) Events(after, most int) ([]api.Event, api.Errno) {
	if e := s.checkPast(after, most); e != api.OK {
		return nil, e
	}
	behind := s.past[after-s.floor:]
	var l []api.Event
	for i, x := range behind[:min(most, len(behind))] {
		l = append(l, api.Event{Rev: after + 1 + i, Kind: x.kind, Key: x.key, Data: []byte(x.data)})
	}
	return l, api.OK
}

// Compact forgets the past up to a revision.
func (s *Store) Compact(rev int) api.Errno {
	switch {
	case s == nil:
		return api.ErrNil
	case rev < 0:
		return api.ErrArg
	case rev > s.rev:
		return api.ErrFuture
	case rev > s.floor:
		s.forget(rev)
	}
	return api.OK
}

// checkPast is what is wrong with a question about the past.
func (s *Store) checkPast(rev, most int) api.Errno {
	switch {
	case s == nil:
		return api.ErrNil
	case rev < 0 || most < 0:
		return api.ErrArg
	case rev < s.floor:
		return api.ErrExpired
	case rev > s.rev:
		return api.ErrFuture
	}
	return api.OK
}

// asOf is the state as of a revision that can be asked for. It is for reading: that as of the counter is the store's own.
func (s *Store) asOf(rev int) objects {
	if rev == s.rev {
		return s.now
	}
	o := maps.Clone(s.base)
	o.follow(s.floor, s.past[:rev-s.floor]...)
	return o
}

// forget lets the floor grow to a revision.
func (s *Store) forget(rev int) {
	gone := s.past[:rev-s.floor]
	s.base.follow(s.floor, gone...)
	s.past = s.past[len(gone):]
	s.floor = rev
	clear(gone) // the room ahead of the past stays for a while: no bytes are to stay with it
}
