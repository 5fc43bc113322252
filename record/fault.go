package record

import (
	"errors"
	"strconv"

	"freehold/api"
)

// What an object, or its bytes, can be at fault with by itself, not by a layer below.
var (
	errLong  = errors.New("more bytes than a record may have")
	errShape = errors.New("not written as a record is")
	errOwned = errors.New("owned, but no leaf")
	errAbove = errors.New("applied without the element above")
)

// part is what of an object, or of what it is asked by, something is wrong with.
type part string

const (
	partSchema  part = "schema"
	partType    part = "type"
	partEntries part = "entries"
	partValue   part = "value"
	partBytes   part = "bytes" // of all of it together
)

// fault is the number of an error of a layer below, as an error.
type fault api.Errno

func (f fault) Error() string { return "fault " + strconv.Itoa(int(f)) }

// met is an error with the part in which it was met.
type met struct {
	in  part
	err error
}

func (m met) Error() string { return string(m.in) + ": " + m.err.Error() }

func (m met) Unwrap() error { return m.err }

// metIn is what a layer below says of a part; nil, if nothing is wrong.
func metIn(in part, e api.Errno) error {
	if e == api.OK {
		return nil
	}
	return met{in: in, err: fault(e)}
}

// told is the number of what is wrong with an object. Its parts have the numbers of the layers below; of an object whose parts may be the bytes can be too many alone, whichever layer says so.
func told(err error) api.Errno {
	var where met
	var number fault
	switch {
	case errors.Is(err, errOwned), errors.Is(err, errAbove):
		return api.ErrRecord
	case errors.As(err, &where) && where.in == partBytes:
		return api.ErrObject
	case errors.As(err, &number):
		return api.Errno(number)
	}
	return api.OK
}
