package server

import (
	"freehold/api"
	"freehold/feed"
	"freehold/jsonpatch"
	"freehold/mergepatch"
	"freehold/request"
	"freehold/selector"
	"freehold/strategic"
	"freehold/update"
	"freehold/validate"
)

// begin reads a request, ends what needs no access, and sets the first one of all others.
func (f *Flight) begin(text []byte) error {
	r, class, e := request.Parse(text)
	if e != api.OK {
		return classed(class)
	}
	f.asked = r
	if r.Kind != "" { // just events may be of no kind
		if f.typ, e = validate.Of(f.schema, r.Kind); e != api.OK {
			return classed(api.ClassBadRequest)
		}
	}
	switch r.Op {
	case api.OpGet:
		return f.beginRead(f.tell)
	case api.OpList:
		return f.beginList()
	case api.OpEvents:
		f.next = access{api.AccessEvents, f.readEvents}
		return nil
	case api.OpCreate:
		return f.beginCreate()
	case api.OpApply:
		return f.beginWhole(f.applied)
	case api.OpUpdate:
		return f.beginWhole(f.updated)
	case api.OpMerge:
		return f.beginPatch(func(v api.Value) (api.Value, api.Errno) { return mergepatch.Apply(v, r.Body) })
	case api.OpSteps:
		return f.beginSteps()
	case api.OpStrategic:
		return f.beginStrategic()
	}
	return f.beginRead(f.remove)
}

// beginRead is of a request that reads the object first.
func (f *Flight) beginRead(follow func(was found) error) error {
	f.follow = follow
	f.next = access{api.AccessRead, f.read}
	return nil
}

// beginList is of a list. A token must be of the same choice: of another text of the selector it may be.
func (f *Flight) beginList() error {
	terms, _, e := selector.Parse(f.asked.Selector)
	if e != api.OK {
		return classed(api.ClassBadRequest)
	}
	if f.asked.Continue != "" {
		_, kind, sel, _, e := feed.ReadToken(f.asked.Continue)
		canon, _ := selector.Print(terms) // they were read: there is no fault to tell
		if e != api.OK || kind != f.asked.Kind || sel != canon {
			return classed(api.ClassBadRequest)
		}
	}
	f.next = access{api.AccessList, f.readList}
	return nil
}

// beginCreate is of a create: what it writes hangs on nothing that is there.
func (f *Flight) beginCreate() error {
	if err := f.checkValue(f.asked.Body); err != nil {
		return err
	}
	o, e := update.Create(f.schema, f.typ, f.asked.Manager, f.asked.Body)
	if e != api.OK {
		return classed(api.ClassOverlimit)
	}
	return f.put(found{}, o)
}

// beginWhole is of a request whose body is a value of the type.
func (f *Flight) beginWhole(behind change) error {
	if err := f.checkValue(f.asked.Body); err != nil {
		return err
	}
	return f.beginRead(f.writing(behind))
}

// beginPatch is of a patch that may be.
func (f *Flight) beginPatch(p patch) error { return f.beginRead(f.writing(f.patched(p))) }

func (f *Flight) beginSteps() error {
	l, _, e := jsonpatch.Parse(f.asked.Body)
	if e != api.OK {
		return classed(api.ClassBadRequest)
	}
	return f.beginPatch(func(v api.Value) (api.Value, api.Errno) {
		v, _, e := jsonpatch.Apply(v, l)
		return v, e
	})
}

func (f *Flight) beginStrategic() error {
	sc, typ, p := f.schema, f.typ, f.asked.Body
	if e := strategic.Check(sc, typ, p); e != api.OK {
		return classed(api.ClassBadRequest)
	}
	return f.beginPatch(func(v api.Value) (api.Value, api.Errno) { return strategic.Apply(sc, typ, v, p) })
}

// checkValue ends a request with a value that is not valid of the type.
func (f *Flight) checkValue(v api.Value) error {
	if where, e := validate.Check(f.schema, f.typ, v); e != api.OK {
		return violated(where)
	}
	return nil
}
