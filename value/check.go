package value

import (
	"unicode/utf8"

	"freehold/api"
)

// Check tells whether a value is good, no deeper than that, and not too large.
func Check(v api.Value, depth int) api.Errno {
	if depth < 0 || depth > api.DeepRecord {
		return api.ErrArg
	}
	w := walk{depth: depth}
	return w.visit(v, 0)
}

// Depth tells how deep a value is.
func Depth(v api.Value) int {
	w := walk{depth: api.DeepRecord}
	if w.visit(v, 0) != api.OK {
		return -1
	}
	return w.deepest
}

// Nodes tells how many values there are in a value, itself among them.
func Nodes(v api.Value) int {
	w := walk{depth: api.DeepRecord}
	if w.visit(v, 0) != api.OK {
		return -1
	}
	return w.nodes
}

// taken tells whether a value is one that every layer works with.
func taken(v api.Value) bool { return Check(v, api.DeepRecord) == api.OK }

// walk goes through a value and counts what it has met. It turns back at the first fault: a value that lies within itself has no end but that.
type walk struct {
	depth   int // levels that may be
	nodes   int
	bytes   int
	deepest int
}

func (w *walk) visit(v api.Value, level int) api.Errno {
	if e := w.enter(v, level); e != api.OK {
		return e
	}
	for _, x := range v.List {
		if e := w.visit(x, level+1); e != api.OK {
			return e
		}
	}
	for _, x := range v.Map {
		if e := w.visit(x.Val, level+1); e != api.OK {
			return e
		}
	}
	return api.OK
}

// enter looks at one value without what it holds; the order of its questions is that of the errors.
func (w *walk) enter(v api.Value, level int) api.Errno {
	switch {
	case w.nodes >= api.MaxNodes:
		return api.ErrNodes
	case level > w.depth:
		return api.ErrDeep
	case !plain(v) || !utf8.ValidString(v.Str) || !rising(v.Map):
		return api.ErrValue
	}
	w.nodes++
	w.deepest = max(w.deepest, level)
	w.bytes += len(v.Str)
	for _, x := range v.Map {
		w.bytes += len(x.Key)
	}
	if w.bytes > api.MaxText {
		return api.ErrBytes
	}
	return api.OK
}

// plain tells whether a value has a kind, and nothing in the fields of the other kinds.
func plain(v api.Value) bool {
	return v.Kind >= api.Null && v.Kind <= api.Map &&
		(v.Kind == api.Bool || !v.Bool) &&
		(v.Kind == api.Int || v.Int == 0) &&
		(v.Kind == api.Str || v.Str == "") &&
		(v.Kind == api.List || len(v.List) == 0) &&
		(v.Kind == api.Map || len(v.Map) == 0)
}

// rising tells whether the keys are UTF-8, and each stands behind the one ahead of it.
func rising(l []api.Member) bool {
	for i, x := range l {
		if !utf8.ValidString(x.Key) || i > 0 && l[i-1].Key >= x.Key {
			return false
		}
	}
	return true
}
