package modules

import (
	"iter"
	"slices"

	"examiner/api"
)

// within yields each type within a type: itself, then those within its fields, then those within Of. What is yielded may be changed.
func within(t *api.Type) iter.Seq[*api.Type] {
	return func(yield func(*api.Type) bool) { yieldWithin(t, yield) }
}

// yieldWithin returns whether further types are wanted.
func yieldWithin(t *api.Type, yield func(*api.Type) bool) bool {
	if !yield(t) {
		return false
	}
	for i := range t.Fields {
		if !yieldWithin(&t.Fields[i].Type, yield) {
			return false
		}
	}
	for i := range t.Of {
		if !yieldWithin(&t.Of[i], yield) {
			return false
		}
	}
	return true
}

// references yields each reference within a type.
func references(t *api.Type) iter.Seq[*api.Type] {
	return func(yield func(*api.Type) bool) {
		for inner := range within(t) {
			if inner.Kind == api.TypeRef && !yield(inner) {
				return
			}
		}
	}
}

// withDefault yields each field within a type that has a default, the type's own fields first.
func withDefault(t *api.Type) iter.Seq[*api.Field] {
	return func(yield func(*api.Field) bool) {
		for inner := range within(t) {
			for i := range inner.Fields {
				if len(inner.Fields[i].Default) > 0 && !yield(&inner.Fields[i]) {
					return
				}
			}
		}
	}
}

// changeInner changes the types directly within a type, one by one.
func changeInner(t *api.Type, change func(*api.Type) api.Errno) api.Errno {
	for i := range t.Fields {
		if e := change(&t.Fields[i].Type); e != api.OK {
			return e
		}
	}
	for i := range t.Of {
		if e := change(&t.Of[i]); e != api.OK {
			return e
		}
	}
	return api.OK
}

// lookUp returns the type of a schema with a name, if there is one.
func lookUp(s api.Schema, name string) (api.Type, bool) {
	i := slices.IndexFunc(s, func(n api.Named) bool { return n.Name == name })
	if i < 0 {
		return api.Type{}, false
	}
	return s[i].Type, true
}

// named returns the type of a schema with a name that is known to be there.
func named(s api.Schema, name string) api.Type {
	t, _ := lookUp(s, name)
	return t
}
