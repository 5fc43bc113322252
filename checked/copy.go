package checked

import "freehold/api"

// Copy is a path once more, in memory of its own.
func Copy(p api.Path) api.Path {
	to := make(api.Path, len(p))
	for i, e := range p {
		to[i] = CopyElem(e)
	}
	return to
}

// CopyElem is an element once more, in memory of its own.
func CopyElem(e api.Elem) api.Elem {
	var key []api.Member
	for _, m := range e.Key {
		key = append(key, api.Member{Key: m.Key, Val: copyScalar(m.Val)})
	}
	return api.Elem{Kind: e.Kind, Name: e.Name, Key: key, Item: copyScalar(e.Item)}
}

// copyScalar leaves the lists out: they are empty, but may have spare room that is the caller's.
func copyScalar(v api.Value) api.Value {
	return api.Value{Kind: v.Kind, Bool: v.Bool, Int: v.Int, Str: v.Str}
}
