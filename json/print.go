package json

import (
	"strconv"

	"freehold/api"
	"freehold/quote"
	"freehold/value"
)

// Print writes a value's canonical text.
func Print(v api.Value, depth int) ([]byte, api.Errno) {
	if e := value.Check(v, depth); e != api.OK {
		return nil, e
	}
	b := appendValue(nil, v)
	if len(b) > api.MaxText {
		return nil, api.ErrTextLong
	}
	return b, api.OK
}

// appendValue writes a good value; its keys stand in their order already.
func appendValue(b []byte, v api.Value) []byte {
	switch v.Kind {
	case api.Bool:
		return strconv.AppendBool(b, v.Bool)
	case api.Int:
		return strconv.AppendInt(b, int64(v.Int), 10)
	case api.Str:
		return appendString(b, v.Str)
	case api.List:
		return appendList(b, v.List)
	case api.Map:
		return appendMap(b, v.Map)
	}
	return append(b, "null"...)
}

func appendString(b []byte, s string) []byte {
	text, _ := quote.Quote(s) // the strings of a good value are UTF-8
	return append(b, text...)
}

func appendList(b []byte, l []api.Value) []byte {
	b = append(b, '[')
	for i, x := range l {
		if i > 0 {
			b = append(b, ',')
		}
		b = appendValue(b, x)
	}
	return append(b, ']')
}

func appendMap(b []byte, l []api.Member) []byte {
	b = append(b, '{')
	for i, x := range l {
		if i > 0 {
			b = append(b, ',')
		}
		b = append(appendString(b, x.Key), ':')
		b = appendValue(b, x.Val)
	}
	return append(b, '}')
}
