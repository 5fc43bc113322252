package pointer

import (
	"strconv"

	"freehold/api"
	"freehold/value"
)

// Get answers what stands at a place.
func Get(v api.Value, p string) (api.Value, api.Errno) {
	tokens, e := ready(v, p)
	if e != api.OK {
		return api.Value{}, e
	}
	var got api.Value
	_, e = walk(v, tokens, func(w api.Value) (api.Value, api.Errno) {
		got = w
		return w, api.OK
	})
	return anew(got, e)
}

// Set is the value with x in the place of what stands there.
func Set(v api.Value, p string, x api.Value) (api.Value, api.Errno) {
	tokens, e := ready(v, p, x)
	if e != api.OK {
		return api.Value{}, e
	}
	return anew(walk(v, tokens, func(api.Value) (api.Value, api.Errno) { return x, api.OK }))
}

// Add is the value with x there, as RFC 6902 adds.
func Add(v api.Value, p string, x api.Value) (api.Value, api.Errno) {
	tokens, e := ready(v, p, x)
	if e != api.OK {
		return api.Value{}, e
	}
	if len(tokens) == 0 {
		return anew(x, api.OK)
	}
	above, last := split(tokens)
	return anew(walk(v, above, func(w api.Value) (api.Value, api.Errno) { return added(w, last, x) }))
}

// Take is the value without what stands there, and that.
func Take(v api.Value, p string) (api.Value, api.Value, api.Errno) {
	tokens, e := ready(v, p)
	if e != api.OK {
		return api.Value{}, api.Value{}, e
	}
	if len(tokens) == 0 {
		return api.Value{}, api.Value{}, api.ErrPlace
	}
	above, last := split(tokens)
	var was api.Value
	rest, e := anew(walk(v, above, func(w api.Value) (api.Value, api.Errno) {
		i, e := lead(w, last)
		if e != api.OK {
			return api.Value{}, e
		}
		was = held(w, i)
		return removed(w, i), api.OK
	}))
	return rest, value.Clone(was), e
}

// Kids lists the tokens one level below a place.
func Kids(v api.Value, p string) ([]string, api.Errno) {
	tokens, e := ready(v, p)
	if e != api.OK {
		return nil, e
	}
	var kids []string
	_, e = walk(v, tokens, func(w api.Value) (api.Value, api.Errno) {
		kids = leading(w)
		return w, api.OK
	})
	return kids, e
}

// ready is the tokens of a pointer, if all arguments are as they must be, in the order in which their errors count.
func ready(v api.Value, p string, more ...api.Value) ([]string, api.Errno) {
	if e := value.Check(v, api.DeepRecord); e != api.OK {
		return nil, e
	}
	tokens, e := Parse(p)
	if e != api.OK {
		return nil, e
	}
	for _, x := range more {
		if e := value.Check(x, api.DeepRecord); e != api.OK {
			return nil, e
		}
	}
	return tokens, api.OK
}

// split parts the last token from those that lead to what it is asked of.
func split(tokens []string) ([]string, string) {
	last := len(tokens) - 1
	return tokens[:last], tokens[last]
}

// anew is the answer that a walk made, in memory of its own; it may have become too deep or too large.
func anew(v api.Value, e api.Errno) (api.Value, api.Errno) {
	if e != api.OK {
		return api.Value{}, e
	}
	if e := value.Check(v, api.DeepRecord); e != api.OK {
		return api.Value{}, e
	}
	return value.Clone(v), api.OK
}

// leading is the tokens that lead to what a value holds.
func leading(v api.Value) []string {
	var l []string
	for i := range v.List {
		l = append(l, strconv.Itoa(i))
	}
	for _, x := range v.Map {
		l = append(l, x.Key)
	}
	return l
}
