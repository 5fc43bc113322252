package request

import (
	"freehold/api"
	"freehold/quote"
	"freehold/value"
)

// member is a member of a request's map, as a pair of closures over its field.
type member struct {
	key  string
	bit  int
	take func(v api.Value) bool          // what a value tells comes into the field; false, if it may not stand there
	tell func() (v api.Value, more bool) // the field as a value, and whether it is more than zero or empty
}

// membersOf lists what the map of a request can have, by the keys, rising, over the fields of a request.
func membersOf(r *api.Request) []member {
	return []member{
		number(keyAfter, asksAfter, &r.After, 0, api.MaxRevision),
		anything(keyBody, asksBody, &r.Body),
		text(keyContinue, asksContinue, &r.Continue, quote.Valid),
		truth(keyForce, asksForce, &r.Force),
		text(keyKind, asksKind, &r.Kind, isKind),
		number(keyLimit, asksLimit, &r.Limit, 1, api.MaxPage),
		text(keyManager, asksManager, &r.Manager, isManager),
		text(keyName, asksName, &r.Name, isName),
		opMember(&r.Op),
		number(keyRevision, asksRevision, &r.Rev, 1, api.MaxRevision),
		text(keySelector, asksSelector, &r.Selector, isSelector),
	}
}

func number(key string, bit int, field *int, least, most int) member {
	return member{key, bit,
		func(v api.Value) bool {
			*field = v.Int
			return v.Kind == api.Int && v.Int >= least && v.Int <= most
		},
		func() (api.Value, bool) { return api.Value{Kind: api.Int, Int: *field}, *field != 0 },
	}
}

func text(key string, bit int, field *string, mayBe func(s string) bool) member {
	return member{key, bit,
		func(v api.Value) bool {
			*field = v.Str
			return v.Kind == api.Str && mayBe(v.Str)
		},
		func() (api.Value, bool) { return api.Value{Kind: api.Str, Str: *field}, *field != "" },
	}
}

func truth(key string, bit int, field *bool) member {
	return member{key, bit,
		func(v api.Value) bool {
			*field = v.Bool
			return v.Kind == api.Bool
		},
		func() (api.Value, bool) { return api.Value{Kind: api.Bool, Bool: *field}, *field },
	}
}

func anything(key string, bit int, field *api.Value) member {
	return member{key, bit,
		func(v api.Value) bool {
			*field = v
			return value.Check(v, api.DeepRecord) == api.OK
		},
		func() (api.Value, bool) { return *field, !value.Equal(*field, api.Value{}) },
	}
}

// opMember has no bit: whatever else a request has, its op says.
func opMember(field *int) member {
	return member{keyOp, 0,
		func(v api.Value) bool {
			*field = numbered(v.Str, opWord) // of what is no string Str is empty
			return *field != 0
		},
		func() (api.Value, bool) { return api.Value{Kind: api.Str, Str: opWord(*field)}, true },
	}
}

// requestOf is the request of some members, which rise by their keys; false, if they are no request's.
func requestOf(l []api.Member) (api.Request, bool) {
	var r api.Request
	asks := 0
	for _, m := range membersOf(&r) {
		if len(l) == 0 || l[0].Key != m.key {
			continue
		}
		if !m.take(l[0].Val) {
			return api.Request{}, false
		}
		asks |= m.bit
		l = l[1:]
	}
	must, may := ops[r.Op].must, ops[r.Op].may
	if len(l) > 0 || r.Op == 0 || asks&must != must || asks&^(must|may) != 0 {
		return api.Request{}, false
	}
	return r, true
}

// told lists the members that a request tells, whether it is one or not: those that must be there, and those that are more than zero or empty.
func told(r api.Request) []api.Member {
	must := 0
	if opWord(r.Op) != "" {
		must = ops[r.Op].must
	}
	var l []api.Member
	for _, m := range membersOf(&r) {
		if v, more := m.tell(); more || must&m.bit != 0 {
			l = append(l, api.Member{Key: m.key, Val: v})
		}
	}
	return l
}
