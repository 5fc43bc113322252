package server

import (
	"freehold/api"
	"freehold/apply"
	"freehold/update"
)

// change is the object that a request makes of what it read.
type change func(was found) (api.Object, error)

// patch is the value that a request makes of the object's.
type patch func(v api.Value) (api.Value, api.Errno)

// applied is the change of an apply.
func (f *Flight) applied(was found) (api.Object, error) {
	o, _, conflicts, e := apply.Apply(f.schema, f.typ, was.object, was.there, f.asked.Manager, f.asked.Body, f.asked.Force)
	switch e {
	case api.OK:
		return o, nil
	case api.ErrConflict:
		return api.Object{}, ended{api.Answer{Class: api.ClassConflict, Rev: was.rev, Conflicts: conflicts}}
	}
	return api.Object{}, classed(api.ClassOverlimit)
}

// updated is the change of an update.
func (f *Flight) updated(was found) (api.Object, error) { return f.rewritten(was, f.asked.Body) }

// patched is the change of a patch.
func (f *Flight) patched(p patch) change {
	return func(was found) (api.Object, error) {
		v, e := p(was.object.Value)
		if e != api.OK {
			return api.Object{}, classed(unpatched(e))
		}
		if err := f.checkValue(v); err != nil {
			return api.Object{}, err
		}
		return f.rewritten(was, v)
	}
}

// unpatched is the class of a patch that can't be carried out, by what is wrong: what it made is too large, or it can't be done there.
func unpatched(e api.Errno) int {
	switch e {
	case api.ErrDeep, api.ErrNodes, api.ErrBytes:
		return api.ClassOverlimit
	}
	return api.ClassUnfit
}

// rewritten is an object behind the manager's writing a valid value: owners can be too many, and nothing else wrong.
func (f *Flight) rewritten(was found, v api.Value) (api.Object, error) {
	o, e := update.Update(f.schema, f.typ, was.object, f.asked.Manager, v)
	if e != api.OK {
		return api.Object{}, classed(api.ClassOverlimit)
	}
	return o, nil
}
