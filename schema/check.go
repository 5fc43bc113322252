package schema

import (
	"slices"

	"freehold/api"
	"freehold/value"
)

// checkEach looks at each type by itself.
func (b *book) checkEach() api.Errno {
	for i, t := range b.types {
		if _, word := scalarNamed(t.Name); word || !isName(t.Name) || i > 0 && t.Name <= b.types[i-1].Name {
			return api.ErrSchemaName
		}
		if e := b.checkParts(t); e != api.OK {
			return e
		}
	}
	return api.OK
}

// checkParts asks in the chapter's order: what is told first is what stands first there.
func (b *book) checkParts(t api.Type) api.Errno {
	switch {
	case !fits(t):
		return api.ErrSchema
	case len(t.Fields) > api.MaxFields || len(t.Keys) > api.MaxKeys || len(t.Enum) > api.MaxEnum:
		return api.ErrSchemaLimit
	case !namesRise(t.Fields):
		return api.ErrSchemaName
	case !b.leadsOn(t):
		return api.ErrSchemaRef
	case t.Rel == api.Keyed && !keysRise(t.Keys):
		return api.ErrSchemaKeys
	case !enumRises(t):
		return api.ErrSchemaEnum
	}
	return api.OK
}

func namesRise(l []api.Field) bool {
	for i, f := range l {
		if !isFieldName(f.Name) || i > 0 && f.Name <= l[i-1].Name {
			return false
		}
	}
	return true
}

// leadsOn tells whether every name that a type uses stands for something.
func (b *book) leadsOn(t api.Type) bool {
	if kinds[t.Kind].uses&usesElem != 0 {
		if _, ok := b.stands(t.Elem); !ok {
			return false
		}
	}
	return !slices.ContainsFunc(t.Fields, func(f api.Field) bool {
		_, ok := b.stands(f.Type)
		return !ok
	})
}

func keysRise(l []string) bool {
	for i := 1; i < len(l); i++ {
		if l[i] <= l[i-1] {
			return false
		}
	}
	return len(l) > 0
}

func enumRises(t api.Type) bool {
	bare := api.Type{Kind: t.Kind}
	for i, v := range t.Enum {
		if !Is(bare, v) || i > 0 && value.Compare(t.Enum[i-1], v) >= 0 {
			return false
		}
	}
	return true
}

func (b *book) checkLoops() api.Errno {
	for _, t := range b.types {
		if t.Kind != api.TypeName {
			continue
		}
		if _, e := b.means(t.Elem); e != api.OK {
			return e
		}
	}
	return api.OK
}

func (b *book) checkLists() api.Errno {
	for _, t := range b.types {
		switch t.Rel {
		case api.Set:
			if !b.meansScalar(t.Elem) {
				return api.ErrSchemaElem
			}
		case api.Keyed:
			if e := b.checkKeyed(t); e != api.OK {
				return e
			}
		}
	}
	return api.OK
}

func (b *book) checkKeyed(t api.Type) api.Errno {
	elem, e := b.means(t.Elem)
	if e != api.OK || elem.Kind != api.TypeStruct || elem.Atomic {
		return api.ErrSchemaElem
	}
	for _, key := range t.Keys {
		if f, ok := fieldOf(elem, key); !ok || !b.meansScalar(f.Type) {
			return api.ErrSchemaKeys
		}
	}
	return api.OK
}

func (b *book) checkRoots(l []api.Root) api.Errno {
	for i, r := range l {
		if !isName(r.Kind) || i > 0 && r.Kind <= l[i-1].Kind {
			return api.ErrSchemaName
		}
		t, e := b.means(r.Type)
		if e != api.OK {
			return e
		}
		if !holdsFields(t) {
			return api.ErrSchemaRoot
		}
	}
	return api.OK
}
