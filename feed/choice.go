package feed

import (
	"strings"

	"freehold/api"
	"freehold/record"
	"freehold/selector"
)

// choice is a kind and the terms of a selector. The zero choice has all objects.
type choice struct {
	kind  string
	terms []api.Term
}

func choose(kind, sel string) (choice, api.Errno) {
	l, _, e := selector.Parse(sel)
	if e != api.OK {
		return choice{}, e
	}
	return choice{kind: strings.Clone(kind), terms: l}, api.OK // a filter keeps it: a piece would keep the whole text that the kind was cut from
}

// text is the canonical text of the selector.
func (c choice) text() string {
	s, _ := selector.Print(c.terms) // they were read: there is no fault to tell
	return s
}

// has tells whether an object of a key, with its bytes, is in the choice.
func (c choice) has(key string, data []byte) bool {
	return isOf(key, c.kind) && (len(c.terms) == 0 || selector.Match(c.terms, labels(data)))
}

// labels is those of a record's value. What is no record is read as the zero object, which has none.
func labels(data []byte) []api.Member {
	o, _ := record.Decode(data)
	return selector.Labels(o.Value)
}

// isOf tells whether a key is of a kind.
func isOf(key, kind string) bool { return strings.HasPrefix(key, prefix(kind)) }

// prefix is how the keys of a kind begin.
func prefix(kind string) string {
	if kind == "" {
		return ""
	}
	return kind + "/"
}
