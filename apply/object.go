package apply

import (
	"slices"

	"freehold/api"
	"freehold/checked"
	"freehold/leaves"
	"freehold/managers"
	"freehold/value"
)

// object is what comes out, whoever was in the way of it.
func (a applying) object() (api.Object, api.Errno) {
	going := a.going()
	v, e := a.valueOf(leaves.Put(leaves.Drop(a.live, going), a.config))
	if e != api.OK {
		return api.Object{}, e
	}
	l, e := a.owners(going)
	if e != api.OK {
		return api.Object{}, e
	}
	return api.Object{Value: v, Entries: l}, api.OK
}

// owners is the entries behind it all. What the config changes all lose, the manager's own entries too: that by apply is set anew, that by update keeps nothing of the config. The entry by apply comes last: by then no other one will go, so entries that are too many are so for good.
func (a applying) owners(going []api.Path) ([]api.Entry, api.Errno) {
	says := leaves.Paths(a.config)
	l, e := managers.Lose(a.entries, a.unlike(), api.Entry{})
	if e != api.OK {
		return nil, e
	}
	keeps := minus(minus(managers.Get(l, a.manager, api.ByUpdate), says), going)
	l, e = managers.With(l, a.manager, api.ByUpdate, keeps)
	if e != api.OK {
		return nil, e
	}
	return managers.With(l, a.manager, api.ByApply, says)
}

// sameObject tells whether two objects have the same value and the same entries.
func sameObject(a, b api.Object) bool {
	return value.Equal(a.Value, b.Value) && slices.EqualFunc(a.Entries, b.Entries, sameEntry)
}

func sameEntry(a, b api.Entry) bool {
	return a.Manager == b.Manager && a.Way == b.Way && slices.EqualFunc(a.Fields, b.Fields, samePath)
}

func samePath(p, q api.Path) bool { return checked.Order(p, q) == 0 }
