package server

import (
	"errors"
	"strconv"

	"freehold/api"
)

// ended is what ends a request on its way: its answer.
type ended struct{ answer api.Answer }

func (e ended) Error() string { return "ended, class " + strconv.Itoa(e.answer.Class) }

// errLost is a write that somebody else's write was ahead of.
var errLost = errors.New("the write was lost")

// classed ends a request with a class that tells nothing more.
func classed(class int) error { return ended{api.Answer{Class: class}} }

// violated ends a request with what was wrong with a value, where. A place too long to be told is not told.
func violated(where string) error {
	if len(where) > api.MaxWhere {
		where = ""
	}
	return ended{api.Answer{Class: api.ClassViolation, Where: where}}
}

// stale ends a request with the revision that there is.
func stale(rev int) error { return ended{api.Answer{Class: api.ClassStale, Rev: rev}} }

// told ends a request with an object.
func told(o api.Object, rev int) error {
	return ended{api.Answer{Class: api.ClassOK, Op: api.OpGet, Rev: rev, There: true, Object: o}}
}
