package values

import (
	"slices"

	"examiner/api"
	"examiner/limits"
	"examiner/notation"
)

// firstError returns the first error that there is. Checks behind it are not made, because they rely on those before.
func firstError(checks ...func() api.Errno) api.Errno {
	for _, check := range checks {
		if e := check(); e != api.OK {
			return e
		}
	}
	return api.OK
}

func schemaError(s api.Schema) api.Errno {
	_, e := CheckSchema(s)
	return e
}

// typeError is the error of a schema, then that of a type in it.
func typeError(s api.Schema, t api.Type) api.Errno {
	return firstError(
		func() api.Errno { return schemaError(s) },
		func() api.Errno { return notation.CheckType(t) },
		func() api.Errno { return partsError(s, t) },
	)
}

// formError is the error of the first value that has one by itself.
func formError(l ...api.Value) api.Errno {
	for _, v := range l {
		if e := notation.CheckForm(v); e != api.OK {
			return e
		}
	}
	return api.OK
}

// partsError is the first error of the types within a well-formed type, one by one.
func partsError(s api.Schema, t api.Type) api.Errno {
	for inner := range within(t) {
		e := firstError(
			func() api.Errno { return useError(inner) },
			func() api.Errno { return limitsError(inner) },
			func() api.Errno { return referenceError(s, inner) },
		)
		if e != api.OK {
			return e
		}
	}
	return api.OK
}

// useError tells that a type is one with actual parameters, or the field of a class, which chapter 7 replaces.
func useError(t api.Type) api.Errno {
	if (t.Kind == api.TypeRef || t.Kind == api.TypeOpen) && len(t.Fields) > 0 {
		return api.ErrForm
	}
	return api.OK
}

func limitsError(t api.Type) api.Errno {
	_, e := limits.CheckLimits(t)
	return e
}

func referenceError(s api.Schema, t api.Type) api.Errno {
	if t.Kind == api.TypeRef && !isNamed(s, t.Name) {
		return api.ErrMissing
	}
	return api.OK
}

// isNamed returns whether a schema has a type with a name.
func isNamed(s api.Schema, name string) bool {
	return slices.ContainsFunc(s, func(n api.Named) bool { return n.Name == name })
}
