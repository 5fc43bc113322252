package schema

import (
	"freehold/api"
	"freehold/value"
)

// saySchema makes the value of a schema that may be, so that all names rise already. Its size is for the caller to ask of the whole: only so the first fault is the one that is told.
func saySchema(s api.Schema) api.Value {
	var roots, types []api.Member
	for _, r := range s.Roots {
		roots = append(roots, sayMember(r.Kind, sayText(r.Type)))
	}
	for _, t := range s.Types {
		types = append(types, sayMember(t.Name, sayType(t)))
	}
	return sayMap(sayMember(keyKinds, sayMap(roots...)), sayMember(keyTypes, sayMap(types...)))
}

// sayType puts the members in the order of their keys, whichever of them the type has.
func sayType(t api.Type) api.Value {
	var l []api.Member
	if t.Atomic {
		l = append(l, sayMember(keyAtomic, sayTrue()))
	}
	if len(t.Enum) > 0 {
		l = append(l, sayMember(keyEnum, sayEnum(t.Enum)))
	}
	if t.Rel == api.Keyed {
		l = append(l, sayMember(keyKeys, sayTexts(t.Keys)))
	}
	l = append(l, sayKind(t))
	if t.Rel == api.Set {
		l = append(l, sayMember(keySet, sayTrue()))
	}
	return sayMap(l...)
}

// sayKind is the member that every type of a kind has.
func sayKind(t api.Type) api.Member {
	switch t.Kind {
	case api.TypeStruct:
		return sayMember(keyStruct, sayFields(t.Fields))
	case api.TypeMap:
		return sayMember(keyMap, sayText(t.Elem))
	case api.TypeList:
		return sayMember(keyList, sayText(t.Elem))
	case api.TypeName:
		return sayMember(keyName, sayText(t.Elem))
	}
	return sayMember(keyScalar, sayText(kinds[t.Kind].word))
}

func sayFields(l []api.Field) api.Value {
	var to []api.Member
	for _, f := range l {
		to = append(to, sayMember(f.Name, sayText(f.Type)))
	}
	return sayMap(to...)
}

func sayTexts(l []string) api.Value {
	v := api.Value{Kind: api.List}
	for _, s := range l {
		v.List = append(v.List, sayText(s))
	}
	return v
}

func sayEnum(l []api.Value) api.Value {
	v := api.Value{Kind: api.List}
	for _, x := range l {
		v.List = append(v.List, value.Clone(x))
	}
	return v
}

func sayMember(key string, v api.Value) api.Member { return api.Member{Key: key, Val: v} }

func sayMap(l ...api.Member) api.Value { return api.Value{Kind: api.Map, Map: l} }

func sayText(s string) api.Value { return api.Value{Kind: api.Str, Str: s} }

func sayTrue() api.Value { return api.Value{Kind: api.Bool, Bool: true} }
