package managers

import (
	"errors"
	"strconv"

	"freehold/api"
)

// fault is an error's number as an error.
type fault api.Errno

func (f fault) Error() string { return "fault " + strconv.Itoa(int(f)) }

// asError is a number as an error; nil, if nothing is wrong.
func asError(e api.Errno) error {
	if e == api.OK {
		return nil
	}
	return fault(e)
}

// placed is what is wrong with one of some entries, and which one that is.
type placed struct {
	entry int
	err   error
}

func (p placed) Error() string { return "entry " + strconv.Itoa(p.entry) + ": " + p.err.Error() }

func (p placed) Unwrap() error { return p.err }

// told is the number of what is wrong, wherever that is.
func told(err error) api.Errno {
	var f fault
	if errors.As(err, &f) {
		return api.Errno(f)
	}
	return api.OK
}
