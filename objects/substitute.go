package objects

import (
	"slices"

	"examiner/api"
	"examiner/copies"
	"examiner/lexis"
	"examiner/notation"
)

// parametersError is about parameters and the actual types in their places.
func parametersError(params []string, actual []api.Type) api.Errno {
	switch {
	case len(params) != len(actual):
		return api.ErrArity
	case len(params) > api.MaxParams:
		return api.ErrLarge
	}
	for i, name := range params {
		switch {
		case !isCapital(name):
			return api.ErrName
		case slices.Contains(params[:i], name):
			return api.ErrDouble
		}
	}
	for _, t := range actual {
		if e := notation.CheckType(t); e != api.OK {
			return e
		}
	}
	return api.OK
}

// isCapital returns whether a string is a name of ASN.1 that begins with a capital letter.
func isCapital(name string) bool {
	is, e := lexis.IsNameOf(api.LangAsn, name)
	return is && e == api.OK && name[0] <= 'Z'
}

// substitute puts actual types in the place of parameters. Types that are put in stay as they are.
func substitute(t *api.Type, params []string, actual []api.Type) api.Errno {
	for inner := range inOrder(t) {
		i := slices.Index(params, inner.Name)
		if inner.Kind != api.TypeRef || len(inner.Fields) > 0 || i < 0 {
			continue
		}
		if len(inner.Limits) > 0 {
			return api.ErrRefused
		}
		tags := inner.Tags
		*inner = copies.OfType(actual[i])
		inner.Tags = slices.Concat(tags, inner.Tags)
	}
	return api.OK
}
