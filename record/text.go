package record

import (
	"bytes"

	"freehold/api"
	"freehold/json"
	"freehold/managers"
	"freehold/value"
)

// The members of a record's map, in their order.
const (
	keyOwners = "owners"
	keyValue  = "value"
)

// bytesOf is the bytes of an object, or what is wrong with it first.
func bytesOf(o api.Object) ([]byte, error) {
	if err := metIn(partValue, value.Check(o.Value, api.MaxDepth)); err != nil {
		return nil, err
	}
	if err := metIn(partEntries, managers.Check(o.Entries)); err != nil {
		return nil, err
	}
	owners, e := managers.Encode(o.Entries)
	if err := metIn(partBytes, e); err != nil {
		return nil, err
	}
	b, e := json.Print(mapOf(owners, o.Value), api.DeepRecord)
	if err := metIn(partBytes, e); err != nil {
		return nil, err
	}
	if len(b) > api.MaxObject {
		return nil, met{in: partBytes, err: errLong}
	}
	return b, nil
}

// mapOf is the map whose text is a record.
func mapOf(owners, v api.Value) api.Value {
	return api.Value{Kind: api.Map, Map: []api.Member{{Key: keyOwners, Val: owners}, {Key: keyValue, Val: v}}}
}

// objectOf is the object whose bytes these are, or what is wrong with them first.
func objectOf(b []byte) (api.Object, error) {
	if len(b) > api.MaxObject {
		return api.Object{}, met{in: partBytes, err: errLong}
	}
	v, _, e := json.Parse(b, api.DeepRecord)
	if err := metIn(partBytes, e); err != nil {
		return api.Object{}, err
	}
	if !written(v, b) {
		return api.Object{}, met{in: partBytes, err: errShape}
	}
	owners, held := v.Map[0].Val, v.Map[1].Val
	l, e := managers.Decode(owners)
	if err := metIn(partEntries, e); err != nil {
		return api.Object{}, err
	}
	if err := metIn(partValue, value.Check(held, api.MaxDepth)); err != nil {
		return api.Object{}, err
	}
	return api.Object{Value: held, Entries: l}, nil
}

// written tells whether a text is the canonical one of its value, and this has the members of a record.
func written(v api.Value, text []byte) bool {
	m := v.Map
	if len(m) != 2 || m[0].Key != keyOwners || m[1].Key != keyValue {
		return false
	}
	canon, _ := json.Print(v, api.DeepRecord) // it was read: there is no fault to tell
	return bytes.Equal(canon, text)
}
