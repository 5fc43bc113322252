package jsonpatch

import (
	"strings"

	"freehold/api"
	"freehold/pointer"
	"freehold/value"
)

// operation is what an Op does to a value, and what of a step it uses beside the path.
type operation struct {
	from, value bool
	do          func(v api.Value, s api.Step) (api.Value, api.Errno)
}

// book has each operation under its word.
type book map[string]operation

func operations() book {
	return book{
		"add":     {value: true, do: add},
		"remove":  {do: remove},
		"replace": {value: true, do: replace},
		"move":    {from: true, do: move},
		"copy":    {from: true, do: copyOver},
		"test":    {value: true, do: test},
	}
}

// read is the step that a value says.
func (ops book) read(v api.Value) (api.Step, api.Errno) {
	var s api.Step
	var there bool
	if s.Op, there = word(v, "op"); !there {
		return api.Step{}, api.ErrPatchShape
	}
	op, known := ops[s.Op]
	if !known {
		return api.Step{}, api.ErrPatchShape
	}
	if s.Path, there = word(v, "path"); !there {
		return api.Step{}, api.ErrPatchShape
	}
	if op.from {
		if s.From, there = word(v, "from"); !there {
			return api.Step{}, api.ErrPatchShape
		}
	}
	if op.value {
		if s.Value, there = value.Get(v, "value"); !there {
			return api.Step{}, api.ErrPatchShape
		}
	}
	if e := ops.check(s); e != api.OK {
		return api.Step{}, e
	}
	return s, api.OK
}

// word is the string that a map has for a key; what is no map has none.
func word(v api.Value, key string) (string, bool) {
	x, there := value.Get(v, key)
	return x.Str, there && x.Kind == api.Str
}

// check tells why a step may not be.
func (ops book) check(s api.Step) api.Errno {
	op, known := ops[s.Op]
	if !known || !op.from && s.From != "" || !op.value && !zero(s.Value) {
		return api.ErrPatchShape
	}
	for _, p := range [...]string{s.Path, s.From} { // a From that is not used is empty, which is a pointer
		if _, e := pointer.Parse(p); e != api.OK {
			return e
		}
	}
	return value.Check(s.Value, api.MaxDepth)
}

// zero tells whether a value is the zero one, a nil list being as good as an empty one.
func zero(v api.Value) bool {
	return v.Kind == api.Null && value.Check(v, 0) == api.OK
}

// written is a step that may be, as a value; its members stand as their keys rise.
func (ops book) written(s api.Step) api.Value {
	op, v := ops[s.Op], api.Value{Kind: api.Map}
	if op.from {
		v.Map = append(v.Map, api.Member{Key: "from", Val: str(s.From)})
	}
	v.Map = append(v.Map, api.Member{Key: "op", Val: str(s.Op)}, api.Member{Key: "path", Val: str(s.Path)})
	if op.value {
		v.Map = append(v.Map, api.Member{Key: "value", Val: s.Value})
	}
	return v
}

func str(s string) api.Value {
	return api.Value{Kind: api.Str, Str: s}
}

// carryOut is what a step makes of a value.
func (ops book) carryOut(v api.Value, s api.Step) (api.Value, api.Errno) {
	if e := ops.check(s); e != api.OK {
		return api.Value{}, e
	}
	made, e := ops[s.Op].do(v, s)
	if e != api.OK {
		return api.Value{}, e
	}
	return made, value.Check(made, api.MaxDepth)
}

func add(v api.Value, s api.Step) (api.Value, api.Errno) {
	return pointer.Add(v, s.Path, s.Value)
}

func remove(v api.Value, s api.Step) (api.Value, api.Errno) {
	rest, _, e := pointer.Take(v, s.Path)
	return rest, e
}

func replace(v api.Value, s api.Step) (api.Value, api.Errno) {
	return pointer.Set(v, s.Path, s.Value)
}

func move(v api.Value, s api.Step) (api.Value, api.Errno) {
	// A row of tokens has one text, each token behind a slash: what begins it and is shorter ends at a slash.
	if strings.HasPrefix(s.Path, s.From+"/") {
		return api.Value{}, api.ErrPatchMove
	}
	rest, was, e := pointer.Take(v, s.From)
	if e != api.OK {
		return api.Value{}, e
	}
	return pointer.Add(rest, s.Path, was)
}

func copyOver(v api.Value, s api.Step) (api.Value, api.Errno) {
	x, e := pointer.Get(v, s.From)
	if e != api.OK {
		return api.Value{}, e
	}
	return pointer.Add(v, s.Path, x)
}

func test(v api.Value, s api.Step) (api.Value, api.Errno) {
	x, e := pointer.Get(v, s.Path)
	if e != api.OK {
		return api.Value{}, e
	}
	if !value.Equal(x, s.Value) {
		return api.Value{}, api.ErrPatchTest
	}
	return v, api.OK
}
