package schema

import "freehold/api"

// What a kind of types may use, beside Name and Kind.
const (
	usesAtomic = 1 << iota
	usesFields
	usesElem
	usesRel
	usesKeys
	usesEnum
)

// kinds holds, by a type's kind, what it uses; of a scalar one also the word that names it and the kind of its values.
var kinds = [...]struct {
	uses   int
	word   string
	values int
}{
	api.TypeBool:   {usesEnum, "bool", api.Bool},
	api.TypeInt:    {usesEnum, "int", api.Int},
	api.TypeStr:    {usesEnum, "string", api.Str},
	api.TypeStruct: {uses: usesAtomic | usesFields},
	api.TypeMap:    {uses: usesAtomic | usesElem},
	api.TypeList:   {uses: usesElem | usesRel | usesKeys},
	api.TypeName:   {uses: usesElem},
}

// fits tells whether a type has a kind, and nothing that its kind does not use.
func fits(t api.Type) bool {
	if t.Kind < api.TypeBool || t.Kind > api.TypeName || t.Rel < api.Whole || t.Rel > api.Keyed {
		return false
	}
	if len(t.Keys) > 0 && t.Rel != api.Keyed { // the table can't tell: here the Rel has a say, too
		return false
	}
	return has(t)&^kinds[t.Kind].uses == 0
}

// has tells which parts of a type are not zero or empty.
func has(t api.Type) int {
	parts := 0
	if t.Atomic {
		parts |= usesAtomic
	}
	if len(t.Fields) > 0 {
		parts |= usesFields
	}
	if t.Elem != "" {
		parts |= usesElem
	}
	if t.Rel != 0 {
		parts |= usesRel
	}
	if len(t.Keys) > 0 {
		parts |= usesKeys
	}
	if len(t.Enum) > 0 {
		parts |= usesEnum
	}
	return parts
}

// isScalar asks for the kind alone: a type that comes in need not be one of a schema that may be.
func isScalar(t api.Type) bool { return t.Kind >= api.TypeBool && t.Kind <= api.TypeStr }

// holdsFields tells whether a type is a struct or a map that is not atomic.
func holdsFields(t api.Type) bool {
	return (t.Kind == api.TypeStruct || t.Kind == api.TypeMap) && !t.Atomic
}

// scalarNamed is the type that one of the three words stands for.
func scalarNamed(name string) (api.Type, bool) {
	for kind := api.TypeBool; kind <= api.TypeStr; kind++ {
		if kinds[kind].word == name {
			return api.Type{Name: name, Kind: kind}, true
		}
	}
	return api.Type{}, false
}
