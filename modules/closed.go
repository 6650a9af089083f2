package modules

import (
	"slices"

	"examiner/api"
	"examiner/copies"
	"examiner/notation"
	"examiner/tags"
	"examiner/values"
)

// schemaOf returns the schema of a module of a program that is right.
func (p program) schemaOf(module int) (api.Schema, api.Errno) {
	d, e := p.draftOf(module)
	if e != api.OK {
		return nil, e
	}
	for _, step := range []func(draft) (api.Schema, api.Errno){withComponents, withoutLimitedReferences, settled, withNormalDefaults} {
		if d.schema, e = step(d); e != api.OK {
			return nil, e
		}
	}
	return d.schema, api.OK
}

// changedTypes returns a schema each type of which is changed.
func changedTypes(s api.Schema, change func(*api.Type) api.Errno) (api.Schema, api.Errno) {
	out := slices.Clone(s)
	for i := range out {
		out[i].Type = copies.OfType(out[i].Type)
		if e := change(&out[i].Type); e != api.OK {
			return nil, e
		}
	}
	return out, api.OK
}

// withComponents puts COMPONENTS OF in. What is put in stays as it is written, so that this ends.
func withComponents(d draft) (api.Schema, api.Errno) {
	var put func(t *api.Type) api.Errno
	put = func(t *api.Type) api.Errno {
		if e := changeInner(t, put); e != api.OK {
			return e
		}
		if !isRecord(*t) || !slices.ContainsFunc(t.Fields, isComponents) {
			return api.OK
		}
		full, e := tags.WithComponents(d.schema, *t)
		*t = full
		return e
	}
	return changedTypes(d.schema, put)
}

func isRecord(t api.Type) bool { return t.Kind == api.TypeRecord || t.Kind == api.TypeSet }

// isComponents returns whether a field of a record is COMPONENTS OF.
func isComponents(f api.Field) bool {
	return f.Name == "components" && f.Type.Kind == api.TypeRef && len(f.Type.Tags) == 0 && f.Presence == api.FieldMust
}

// withoutLimitedReferences replaces references with constraints.
func withoutLimitedReferences(d draft) (api.Schema, api.Errno) {
	return changedTypes(d.schema, func(t *api.Type) api.Errno { return follow(d.schema, t) })
}

// follow replaces the references with constraints within a type.
func follow(s api.Schema, t *api.Type) api.Errno {
	f := follower{s, api.MaxTypeNodes}
	return f.follow(t, api.MaxDepth+1)
}

// A follower follows references within one type, in which so many types may still be. It is what ends the replacing of a list that has itself with a constraint as items.
type follower struct {
	schema api.Schema
	left   int
}

// follow is about a type below which so many levels may be, itself counted.
func (f *follower) follow(t *api.Type, levels int) api.Errno {
	if t.Kind == api.TypeRef && len(t.Limits) > 0 {
		followed, e := notation.Resolved(f.schema, *t)
		if e != api.OK {
			return e
		}
		*t = followed
	}
	f.left--
	switch {
	case f.left < 0 || levels == 0:
		return api.ErrLarge
	case t.Kind == api.TypeEnum: // its items are no types
		return api.OK
	}
	return changeInner(t, func(inner *api.Type) api.Errno { return f.follow(inner, levels-1) })
}

// settled settles the types of each module by its way.
func settled(d draft) (api.Schema, api.Errno) {
	out := slices.Clone(d.schema)
	for way := range api.Ways {
		byWay, e := tags.Settled(d.schema, way)
		if e != api.OK {
			return nil, e
		}
		for i := range out {
			if d.ways[i] == way {
				out[i] = byWay[i]
			}
		}
	}
	return out, schemaError(out)
}

// withNormalDefaults adapts all defaults, and then brings them into their normal form.
func withNormalDefaults(d draft) (api.Schema, api.Errno) {
	fitting, _ := changedDefaults(d.schema, func(t api.Type, v api.Value) (api.Value, api.Errno) {
		return adapted(d.schema, t, v), api.OK
	})
	out, e := changedDefaults(fitting, func(t api.Type, v api.Value) (api.Value, api.Errno) {
		return values.Normal(fitting, t, v)
	})
	if e != api.OK {
		return nil, e
	}
	return out, schemaError(out)
}

// changedDefaults returns a schema each default of which is changed.
func changedDefaults(s api.Schema, change func(api.Type, api.Value) (api.Value, api.Errno)) (api.Schema, api.Errno) {
	return changedTypes(s, func(t *api.Type) api.Errno {
		for f := range withDefault(t) {
			v, e := change(f.Type, f.Default[0])
			if e != api.OK {
				return e
			}
			f.Default[0] = v
		}
		return api.OK
	})
}
