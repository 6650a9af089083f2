package modules

import (
	"examiner/api"
	"examiner/limits"
	"examiner/notation"
	"examiner/values"
)

// schemaError is the error of a schema.
func schemaError(s api.Schema) api.Errno {
	_, e := values.CheckSchema(s)
	return e
}

// typeError is the error of a schema, then that of a type in it.
func typeError(s api.Schema, t api.Type) api.Errno {
	if e := schemaError(s); e != api.OK {
		return e
	}
	if e := notation.CheckType(t); e != api.OK {
		return e
	}
	for inner := range within(&t) {
		if isUse(*inner) {
			return api.ErrForm
		}
		if _, e := limits.CheckLimits(*inner); e != api.OK {
			return e
		}
		if inner.Kind == api.TypeRef && !isNamed(s, inner.Name) {
			return api.ErrMissing
		}
	}
	return api.OK
}
