package pointer

import (
	"slices"
	"strconv"
	"strings"

	"freehold/api"
)

// walk goes down to the place of the tokens, asks do what is to stand there in the stead of what it finds, and makes the value around it anew on the way back. What lies beside the way is still the memory of v.
func walk(v api.Value, tokens []string, do func(api.Value) (api.Value, api.Errno)) (api.Value, api.Errno) {
	if len(tokens) == 0 {
		return do(v)
	}
	i, e := lead(v, tokens[0])
	if e != api.OK {
		return api.Value{}, e
	}
	x, e := walk(held(v, i), tokens[1:], do)
	if e != api.OK {
		return api.Value{}, e
	}
	return replaced(v, i, x), api.OK
}

// lead answers the how manieth of what a value holds it is that a token leads to.
func lead(v api.Value, token string) (int, api.Errno) {
	switch v.Kind {
	case api.Map:
		if i, there := find(v.Map, token); there {
			return i, api.OK
		}
	case api.List:
		if i, ok := index(token, len(v.List)); ok {
			return i, api.OK
		}
		return 0, api.ErrIndex
	}
	return 0, api.ErrPlace
}

// find answers where a key stands among rising ones, or would stand.
func find(l []api.Member, key string) (int, bool) {
	return slices.BinarySearchFunc(l, key, func(x api.Member, key string) int { return strings.Compare(x.Key, key) })
}

// index is what a token says as an index of a list of n values. The library reads more than may be (signs, zeros ahead of others): a number has just one way to be written here.
func index(token string, n int) (int, bool) {
	i, err := strconv.Atoi(token)
	if err != nil || i < 0 || i >= n || strconv.Itoa(i) != token {
		return 0, false
	}
	return i, true
}

// held is the i-th of what a list or a map holds.
func held(v api.Value, i int) api.Value {
	if v.Kind == api.List {
		return v.List[i]
	}
	return v.Map[i].Val
}

// replaced is a list or a map with x as the i-th of what it holds.
func replaced(v api.Value, i int, x api.Value) api.Value {
	if v.Kind == api.List {
		v.List = slices.Clone(v.List)
		v.List[i] = x
		return v
	}
	v.Map = slices.Clone(v.Map)
	v.Map[i].Val = x
	return v
}

// removed is a list or a map without the i-th of what it holds.
func removed(v api.Value, i int) api.Value {
	if v.Kind == api.List {
		v.List = slices.Concat(v.List[:i], v.List[i+1:])
		return v
	}
	v.Map = slices.Concat(v.Map[:i], v.Map[i+1:])
	return v
}

// added is a list or a map with x as one more, or, of a key that is there, in its stead.
func added(v api.Value, token string, x api.Value) (api.Value, api.Errno) {
	switch v.Kind {
	case api.Map:
		i, there := find(v.Map, token)
		if there {
			return replaced(v, i, x), api.OK
		}
		v.Map = slices.Concat(v.Map[:i], []api.Member{{Key: token, Val: x}}, v.Map[i:])
		return v, api.OK
	case api.List:
		i, ok := gap(token, len(v.List))
		if !ok {
			return api.Value{}, api.ErrIndex
		}
		v.List = slices.Concat(v.List[:i], []api.Value{x}, v.List[i:])
		return v, api.OK
	}
	return api.Value{}, api.ErrPlace
}

// gap is the index that something more gets in a list of n values: one more is allowed there than a place has.
func gap(token string, n int) (int, bool) {
	if token == "-" {
		return n, true
	}
	return index(token, n+1)
}
