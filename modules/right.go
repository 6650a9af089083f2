package modules

import (
	"examiner/api"
	"examiner/notation"
	"examiner/tags"
	"examiner/values"
)

// firstFault returns the first fault that there is. Checks behind it are not made, because they rely on those before.
func firstFault(checks ...func() (int, api.Errno)) (int, api.Errno) {
	for _, check := range checks {
		if i, e := check(); e != api.OK {
			return i, e
		}
	}
	return 0, api.OK
}

// typeFault returns the index and the error of the first type of a schema that has one.
func typeFault(s api.Schema, errorOf func(api.Named) api.Errno) (int, api.Errno) {
	for i, n := range s {
		if e := errorOf(n); e != api.OK {
			return i, e
		}
	}
	return 0, api.OK
}

// stateFault tells that a schema is not settled.
func stateFault(s api.Schema) (int, api.Errno) {
	isSettled, e := tags.IsSettled(s)
	switch {
	case e != api.OK:
		return 0, e
	case !isSettled:
		return 0, api.ErrState
	}
	return 0, api.OK
}

// followingFault tells that references to a type, or within it, cannot be followed.
func followingFault(s api.Schema) (int, api.Errno) {
	return typeFault(s, func(n api.Named) api.Errno {
		if _, e := notation.Resolved(s, api.Type{Kind: api.TypeRef, Name: n.Name}); e != api.OK {
			return e
		}
		for ref := range references(&n.Type) {
			if _, e := notation.Resolved(s, *ref); e != api.OK {
				return e
			}
		}
		return api.OK
	})
}

// emptyFault tells that the constraint of a type permits no value.
func emptyFault(s api.Schema) (int, api.Errno) {
	return typeFault(s, func(n api.Named) api.Errno {
		for inner := range within(&n.Type) {
			if permitsNothing(*inner) {
				return api.ErrNone
			}
		}
		return api.OK
	})
}

// heightFault tells that a type has no value, or none that is not too deep.
func heightFault(s api.Schema) (int, api.Errno) {
	h := heightsIn(s)
	return typeFault(s, func(n api.Named) api.Errno {
		if h.known[n.Name] > api.MaxDepth {
			return api.ErrLoop
		}
		return api.OK
	})
}

// clashFault tells that fields cannot be told apart.
func clashFault(s api.Schema) (int, api.Errno) {
	if clash, clashes, _ := tags.ClashIn(s); clashes {
		return clash.Type, api.ErrTag
	}
	return 0, api.OK
}

// defaultFault tells that a default has an error.
func defaultFault(s api.Schema, errorOf func(api.Type, api.Value) api.Errno) (int, api.Errno) {
	return typeFault(s, func(n api.Named) api.Errno {
		for f := range withDefault(&n.Type) {
			if e := errorOf(f.Type, f.Default[0]); e != api.OK {
				return e
			}
		}
		return api.OK
	})
}

// fittingFault tells that a default does not fit its type.
func fittingFault(s api.Schema) (int, api.Errno) {
	return defaultFault(s, func(t api.Type, v api.Value) api.Errno {
		_, e := values.Fits(s, t, v)
		return e
	})
}

// normalFault tells that a default is not its own normal form.
func normalFault(s api.Schema) (int, api.Errno) {
	return defaultFault(s, func(t api.Type, v api.Value) api.Errno {
		if isNormal, _ := values.IsNormal(s, t, v); !isNormal {
			return api.ErrCanonical
		}
		return api.OK
	})
}
