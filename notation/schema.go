package notation

import (
	"slices"

	"examiner/api"
)

// maxFollowedTags is how many tags a type may have behind references.
const maxFollowedTags = 6

// schemaTypeError is about a type of a schema, or in one.
func schemaTypeError(t api.Type) api.Errno {
	if e := CheckType(t); e != api.OK {
		return e
	}
	if hasUse(t) {
		return api.ErrForm
	}
	return api.OK
}

// hasUse returns whether a reference within a type has actual parameters, or an open type is a field of a class.
func hasUse(t api.Type) bool {
	if (t.Kind == api.TypeRef || t.Kind == api.TypeOpen) && len(t.Fields) > 0 {
		return true
	}
	return slices.ContainsFunc(t.Fields, func(f api.Field) bool { return hasUse(f.Type) }) || slices.ContainsFunc(t.Of, hasUse)
}

// follow returns the type to which a reference refers, with what the reference adds; it is the one that is met as such a number.
func follow(s api.Schema, ref api.Type, met int) (api.Type, api.Errno) {
	i := slices.IndexFunc(s, func(n api.Named) bool { return n.Name == ref.Name })
	switch {
	case i < 0:
		return api.Type{}, api.ErrMissing
	case met > api.MaxTypes:
		return api.Type{}, api.ErrLoop
	}
	t := s[i].Type
	t.Tags = slices.Concat(ref.Tags, t.Tags)
	t.Limits = bothLimits(t.Limits, ref.Limits)
	if len(t.Tags) > maxFollowedTags || len(t.Limits) > api.MaxLimitNodes {
		return api.Type{}, api.ErrLarge
	}
	return t, api.OK
}
