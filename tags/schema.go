package tags

import (
	"slices"

	"examiner/api"
	"examiner/notation"
)

// schemaError is the error of a schema.
func schemaError(s api.Schema) api.Errno {
	if _, e := notation.CheckTypes(s); e != api.OK {
		return e
	}
	for _, n := range s {
		if hasStrange(s, n.Type) {
			return api.ErrMissing
		}
	}
	if isCircular(s) {
		return api.ErrLoop
	}
	return api.OK
}

// typeError is the error of a type in a schema that is right.
func typeError(s api.Schema, t api.Type) api.Errno {
	// A schema of this type alone has the same error, as references are not followed there.
	if _, e := notation.CheckTypes(api.Schema{{Name: "T", Type: t}}); e != api.OK {
		return e
	}
	if hasStrange(s, t) {
		return api.ErrMissing
	}
	return api.OK
}

// settledError is the error of a schema, and of types in it, all of which must be settled.
func settledError(s api.Schema, types ...api.Type) api.Errno {
	if e := schemaError(s); e != api.OK {
		return e
	}
	for _, t := range types {
		if e := typeError(s, t); e != api.OK {
			return e
		}
	}
	if !isSettled(s, types...) {
		return api.ErrState
	}
	return api.OK
}

// hasStrange returns whether a reference within a type names no type of a schema.
func hasStrange(s api.Schema, t api.Type) bool {
	for part := range within(&t) {
		if part.Kind != api.TypeRef {
			continue
		}
		if _, known := lookUp(s, part.Name); !known {
			return true
		}
	}
	return false
}

// isCircular returns whether a type of a schema leads back to itself.
func isCircular(s api.Schema) bool {
	for _, n := range s {
		reached := leadsTo(n.Type)
		for i := 0; i < len(reached); i++ {
			if reached[i] == n.Name {
				return true
			}
			for _, name := range leadsTo(named(s, reached[i])) {
				if !slices.Contains(reached, name) {
					reached = append(reached, name)
				}
			}
		}
	}
	return false
}

// leadsTo returns the names of the types to which a type leads directly.
func leadsTo(t api.Type) []string {
	switch t.Kind {
	case api.TypeRef:
		return []string{t.Name}
	case api.TypeUnion:
		var names []string
		for _, f := range t.Fields {
			if len(f.Type.Tags) == 0 {
				names = append(names, leadsTo(f.Type)...)
			}
		}
		return names
	}
	return nil
}

// lookUp returns the type of a schema with a name, if there is one.
func lookUp(s api.Schema, name string) (api.Type, bool) {
	i := slices.IndexFunc(s, func(n api.Named) bool { return n.Name == name })
	if i < 0 {
		return api.Type{}, false
	}
	return s[i].Type, true
}

// named returns the type of a schema with a name that is known to be there.
func named(s api.Schema, name string) api.Type {
	t, _ := lookUp(s, name)
	return t
}
