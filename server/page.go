package server

import (
	"cmp"
	"strings"

	"freehold/api"
	"freehold/feed"
	"freehold/record"
	"freehold/request"
	"freehold/store"
)

// limit is how much of a list, or of events, is asked for at most.
func (f *Flight) limit() int { return cmp.Or(f.asked.Limit, api.MaxPage) }

// readList reads a page of a list.
func (f *Flight) readList(st *store.Store) error {
	l, rev, next, e := feed.Page(st, f.asked.Kind, f.asked.Selector, f.limit(), f.asked.Continue)
	if e != api.OK {
		return classed(untold(e))
	}
	a := api.Answer{Class: api.ClassOK, Op: api.OpList, Rev: rev, Next: next}
	for _, x := range l {
		name, o, err := objectUnder(x.Key, x.Data)
		if err != nil {
			return err
		}
		a.Items = append(a.Items, api.Found{Name: name, Rev: x.Rev, Object: o})
	}
	return ended{a}
}

// readEvents reads a page of events.
func (f *Flight) readEvents(st *store.Store) error {
	l, rev, e := feed.Events(st, f.asked.Kind, f.asked.After, f.limit())
	if e != api.OK {
		return classed(untold(e))
	}
	a := api.Answer{Class: api.ClassOK, Op: api.OpEvents, Rev: rev, Floor: st.Floor()}
	for _, x := range l {
		_, o, err := objectUnder(x.Key, x.Data)
		if err != nil {
			return err
		}
		a.Events = append(a.Events, api.Seen{Rev: x.Rev, Kind: x.Kind, Name: x.Key, Object: o})
	}
	return ended{a}
}

// untold is the class of a page that can't be told: its moment is not kept, or no token leads on behind it.
func untold(e api.Errno) int {
	switch e {
	case api.ErrExpired, api.ErrFuture:
		return api.ClassExpired
	}
	return api.ClassUnfit
}

// objectUnder is the name and the object of what a page has under a key. Of such kinds and names as a key is made of a get could be.
func objectUnder(key string, data []byte) (string, api.Object, error) {
	kind, name, _ := strings.Cut(key, "/") // without a slash the name is empty, which is none
	if _, e := request.Print(api.Request{Op: api.OpGet, Kind: kind, Name: name}); e != api.OK {
		return "", api.Object{}, classed(api.ClassUnfit)
	}
	o, e := record.Decode(data)
	if e != api.OK {
		return "", api.Object{}, classed(api.ClassUnfit)
	}
	return name, o, nil
}
