package values

import (
	"slices"

	"examiner/api"
	"examiner/limits"
)

// fits returns whether a value fits a type, or the first error of them and of the schema, and the place of a fault.
func (f *follower) fits(t api.Type, v api.Value) ([]int, api.Errno) {
	e := firstError(
		func() api.Errno { return typeError(f.schema, t) },
		func() api.Errno { return formError(v) },
	)
	if e != api.OK {
		return nil, e
	}
	return f.firstFault(t, v)
}

// firstFault returns the place and the error of the first value within a value that does not fit.
func (f *follower) firstFault(t api.Type, v api.Value) ([]int, api.Errno) {
	for p := range f.parts(t, v) {
		if e := f.fault(p); e != api.OK {
			return p.place, e
		}
	}
	return nil, api.OK
}

// fault is about a value without those within it.
func (f *follower) fault(p part) api.Errno {
	if p.e != api.OK {
		return p.e
	}
	bare := p.typ
	bare.Tags = nil // behind references there may be more of them than notation.CheckType accepts
	permitted, e := limits.Permits(bare, p.value)
	switch {
	case e != api.OK:
		return e
	case hasStrangeName(p):
		return api.ErrMissing
	case !permitted:
		return api.ErrBound
	case lacksField(p):
		return api.ErrUnbound
	case p.value.Kind == api.ValueOpen && p.value.S != "" && !isNamed(f.schema, p.value.S):
		return api.ErrMissing
	}
	return api.OK
}

// hasStrangeName returns whether a value of the kind of its type has a name that is no field there.
func hasStrangeName(p part) bool {
	if p.value.Kind == api.ValueEnum {
		return fieldNamed(p.typ, p.value.S) == api.None
	}
	return slices.ContainsFunc(p.value.Names, func(name string) bool { return fieldNamed(p.typ, name) == api.None })
}

// lacksField returns whether a field is not there that must be there.
func lacksField(p part) bool {
	if p.value.Kind != api.ValueRecord {
		return false
	}
	isThere := func(index int) bool { return slices.Contains(p.value.Names, p.typ.Fields[index].Name) }
	for i, field := range p.typ.Fields {
		if field.Presence == api.FieldMust && !isThere(i) && (i < p.typ.Root || isPulled(p.typ, i, isThere)) {
			return true
		}
	}
	return false
}

// isPulled returns whether an addition that is not there must be there, because another one is: of its group, or behind it.
func isPulled(t api.Type, index int, isThere func(int) bool) bool {
	group := t.Fields[index].Group
	for i := t.Root; i < len(t.Fields); i++ {
		isOfGroup := group != 0 && t.Fields[i].Group == group
		if (isOfGroup || i > index) && isThere(i) {
			return true
		}
	}
	return false
}

// defaultsError is the error of the first default that does not fit its type, in the schema or in a type.
func (f *follower) defaultsError(t api.Type) api.Errno {
	for _, n := range f.schema {
		if e := f.defaultsWithinError(n.Type); e != api.OK {
			return e
		}
	}
	return f.defaultsWithinError(t)
}

func (f *follower) defaultsWithinError(t api.Type) api.Errno {
	for inner := range within(t) {
		for _, field := range inner.Fields {
			for _, v := range field.Default {
				if _, e := f.firstFault(field.Type, v); e != api.OK {
					return e
				}
			}
		}
	}
	return api.OK
}
