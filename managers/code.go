package managers

import (
	"freehold/api"
	"freehold/fields"
)

// The members of an entry's map, in their order.
const (
	keyFields  = "fields"
	keyManager = "manager"
	keyWay     = "way"
)

// The texts of the ways.
const (
	textApply  = "apply"
	textUpdate = "update"
)

// valueOf is the value of entries that may be, however large.
func valueOf(l []api.Entry) (api.Value, error) {
	v := api.Value{Kind: api.List}
	for i, x := range l {
		set, e := fields.Encode(x.Fields)
		if e != api.OK {
			return api.Value{}, placed{entry: i, err: fault(e)}
		}
		v.List = append(v.List, api.Value{Kind: api.Map, Map: []api.Member{
			{Key: keyFields, Val: set},
			{Key: keyManager, Val: text(x.Manager)},
			{Key: keyWay, Val: text(textOf(x.Way))},
		}})
	}
	return v, nil
}

// entriesOf is the entries of a good value, or what is wrong with it first.
func entriesOf(v api.Value) ([]api.Entry, error) {
	if v.Kind != api.List {
		return nil, fault(api.ErrEntries)
	}
	var l []api.Entry
	for i, x := range v.List {
		entry, err := entryOf(x)
		if err != nil {
			return nil, placed{entry: i, err: err}
		}
		l = append(l, entry)
	}
	return l, mayBe(l)
}

// entryOf is the entry that a good value tells, whether it may be or not.
func entryOf(v api.Value) (api.Entry, error) {
	m := v.Map
	if len(m) != 3 || m[0].Key != keyFields || m[1].Key != keyManager || m[2].Key != keyWay {
		return api.Entry{}, fault(api.ErrEntries)
	}
	set, e := fields.Decode(m[0].Val)
	if e != api.OK {
		return api.Entry{}, fault(e)
	}
	return api.Entry{Manager: m[1].Val.Str, Way: wayOf(m[2].Val.Str), Fields: set}, nil // of what is no string Str is empty: no name, no way
}

func text(s string) api.Value { return api.Value{Kind: api.Str, Str: s} }

// textOf is the text of a way that may be.
func textOf(way int) string {
	if way == api.ByApply {
		return textApply
	}
	return textUpdate
}

// wayOf is the way of a text; 0, which is no way, if there is none.
func wayOf(s string) int {
	switch s {
	case textApply:
		return api.ByApply
	case textUpdate:
		return api.ByUpdate
	}
	return 0
}
