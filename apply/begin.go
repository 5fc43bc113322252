package apply

import (
	"freehold/api"
	"freehold/leaves"
	"freehold/managers"
	"freehold/record"
	"freehold/schema"
	"freehold/validate"
)

// typed is what every step needs: the type by which values are read.
type typed struct {
	schema api.Schema
	typ    string
}

// check tells whether there is such a type.
func (t typed) check() api.Errno {
	if e := schema.Check(t.schema); e != api.OK {
		return e
	}
	_, e := schema.Means(t.schema, t.typ)
	return e
}

// leavesOf lists the leaves of a normal value.
func (t typed) leavesOf(v api.Value) ([]api.Leaf, api.Errno) {
	return leaves.Of(t.schema, t.typ, v)
}

// valueOf is the value that leaves make. They come from valid values, none of which is too deep: what is wrong can be its size alone.
func (t typed) valueOf(l []api.Leaf) (api.Value, api.Errno) {
	v, _, e := leaves.Value(t.schema, t.typ, l)
	return v, e
}

// applying is an Apply under way: a method is a step of it.
type applying struct {
	typed
	manager string
	live    []api.Leaf  // of the object's value
	entries []api.Entry // the object's own: they are read alone
	config  []api.Leaf
}

// begin asks all that is handed in; the order of its questions is that of the errors. An object that is not there has no leaves and no entries.
func begin(t typed, o api.Object, there bool, manager string, config api.Value) (applying, api.Errno) {
	a := applying{typed: t, manager: manager}
	if e := a.check(); e != api.OK {
		return applying{}, e
	}
	if there {
		if e := a.readObject(o); e != api.OK {
			return applying{}, e
		}
	}
	if _, e := managers.With(nil, manager, api.ByApply, nil); e != api.OK { // of no entries and no paths the name alone can be wrong
		return applying{}, e
	}
	if e := a.readConfig(config); e != api.OK {
		return applying{}, e
	}
	return a, api.OK
}

func (a *applying) readObject(o api.Object) api.Errno {
	e := record.Check(a.schema, a.typ, o)
	if e != api.OK {
		return e
	}
	a.entries = o.Entries
	a.live, e = a.leavesOf(o.Value)
	return e
}

func (a *applying) readConfig(config api.Value) api.Errno {
	normal, e := validate.Normal(a.schema, a.typ, config)
	if e != api.OK {
		return e
	}
	a.config, e = a.leavesOf(normal)
	return e
}
