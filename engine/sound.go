package engine

import (
	"strings"

	"freehold/api"
	"freehold/record"
	"freehold/request"
	"freehold/store"
	"freehold/validate"
)

// sound asks a store by a schema that may be: all that stood at its floor, and all events since. Of a store's own revision the store tells everything: there are no errors to tell.
func sound(sc api.Schema, st *store.Store) bool {
	stood, _ := st.List(st.Floor(), "", "", api.MaxObjects)
	for _, x := range stood {
		if !soundUnder(sc, x.Key, x.Data) {
			return false
		}
	}
	past, _ := st.Events(st.Floor(), api.MaxPast)
	for _, x := range past {
		if !soundUnder(sc, x.Key, x.Data) {
			return false
		}
	}
	return true
}

// soundUnder tells whether a key is one of an object, and its bytes are the record of a sound one. Of such kinds and names as a key is made of a get could be.
func soundUnder(sc api.Schema, key string, data []byte) bool {
	kind, name, _ := strings.Cut(key, "/") // without a slash the name is empty, which is none
	if _, e := request.Print(api.Request{Op: api.OpGet, Kind: kind, Name: name}); e != api.OK {
		return false
	}
	typ, e := validate.Of(sc, kind)
	if e != api.OK {
		return false
	}
	o, e := record.Decode(data)
	return e == api.OK && record.Check(sc, typ, o) == api.OK
}
