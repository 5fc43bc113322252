package server

import (
	"bytes"

	"freehold/api"
	"freehold/record"
	"freehold/store"
)

// writing is what follows for a request that writes what a change makes.
func (f *Flight) writing(behind change) func(was found) error {
	return func(was found) error {
		o, err := behind(was)
		if err != nil {
			return err
		}
		return f.put(was, o)
	}
}

// put has an object written against what was read. What has the bytes that are there has the same value and the same owners: it is not written.
func (f *Flight) put(was found, o api.Object) error {
	data, e := record.Encode(o)
	if e != api.OK {
		return classed(api.ClassOverlimit)
	}
	if was.there && bytes.Equal(data, was.data) {
		return told(o, was.rev)
	}
	if was.there {
		f.next = f.swap(was.rev, data, o)
	} else {
		f.next = f.create(data, o)
	}
	return nil
}

func (f *Flight) create(data []byte, o api.Object) access {
	return access{api.AccessCreate, func(st *store.Store) error {
		rev, e := st.Create(f.key(), data)
		return f.written(e, told(o, rev))
	}}
}

func (f *Flight) swap(at int, data []byte, o api.Object) access {
	return access{api.AccessSwap, func(st *store.Store) error {
		rev, e := st.Swap(f.key(), at, data)
		return f.written(e, told(o, rev))
	}}
}

// remove is what follows for a delete.
func (f *Flight) remove(was found) error {
	at := was.rev
	f.next = access{api.AccessRemove, func(st *store.Store) error {
		rev, e := st.Remove(f.key(), at)
		return f.written(e, ended{api.Answer{Class: api.ClassOK, Op: api.OpDelete, Rev: rev}})
	}}
	return nil
}

// written is how a write ended, by what the store says of it: won, if that is nothing.
func (f *Flight) written(e api.Errno, won error) error {
	switch e {
	case api.OK:
		return won
	case api.ErrExists:
		if f.asked.Op == api.OpCreate {
			return classed(api.ClassExists)
		}
		return errLost
	case api.ErrStale, api.ErrMissing:
		return errLost
	}
	return classed(api.ClassOverlimit)
}
