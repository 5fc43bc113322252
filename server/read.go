package server

import (
	"freehold/api"
	"freehold/record"
	"freehold/store"
)

// found is what a read of an object told: that it is there, its revision, its bytes and what they say; or that nothing is there.
type found struct {
	there  bool
	rev    int
	data   []byte
	object api.Object
}

// key is the object's key in the store.
func (f *Flight) key() string { return f.asked.Kind + "/" + f.asked.Name }

// read reads the object, and goes on if what is there is what is asked for.
func (f *Flight) read(st *store.Store) error {
	was, err := f.look(st)
	if err != nil {
		return err
	}
	if !was.there && f.asked.Op != api.OpApply {
		return classed(api.ClassNotFound)
	}
	if f.asked.Rev != 0 && f.asked.Rev != was.rev {
		return stale(was.rev)
	}
	return f.follow(was)
}

// look ends a request at what is no sound record. The store refuses to tell what is not there, and nothing else: the key is one.
func (f *Flight) look(st *store.Store) (found, error) {
	data, rev, e := st.Get(f.key())
	if e != api.OK {
		return found{}, nil
	}
	o, e := record.Decode(data)
	if e != api.OK || record.Check(f.schema, f.typ, o) != api.OK {
		return found{}, classed(api.ClassUnfit)
	}
	return found{there: true, rev: rev, data: data, object: o}, nil
}

// tell is what follows for a get.
func (f *Flight) tell(was found) error { return told(was.object, was.rev) }
