package tags

import (
	"slices"

	"examiner/api"
	"examiner/copies"
)

// settledType returns a type of a schema settled in a way.
func settledType(s api.Schema, t api.Type, way int) api.Type {
	t = copies.OfType(t)
	if way == api.WayAutomatic {
		putAutomatic(&t)
	}
	for part := range within(&t) {
		settle(s, part, way)
	}
	return t
}

// settle settles the tags of a type, but not of those within it.
func settle(s api.Schema, t *api.Type, way int) {
	plain := api.TagImplicit
	if way == api.WayExplicit {
		plain = api.TagExplicit
	}
	for i, g := range t.Tags {
		if g.Way == api.TagPlain {
			t.Tags[i].Way = plain
		}
	}
	if hasWrongImplicit(s, *t) {
		t.Tags[len(t.Tags)-1].Way = api.TagExplicit
	}
}

// hasWrongImplicit returns whether the last tag of a type is implicit, and has nothing in whose place it could be.
func hasWrongImplicit(s api.Schema, t api.Type) bool {
	last := len(t.Tags) - 1
	if last < 0 || t.Tags[last].Way != api.TagImplicit {
		return false
	}
	t.Tags = nil
	return isBare(s, t)
}

// isBare returns whether a type, followed, is a union or an open type without a tag.
func isBare(s api.Schema, t api.Type) bool {
	for t.Kind == api.TypeRef && len(t.Tags) == 0 {
		t = named(s, t.Name)
	}
	return len(t.Tags) == 0 && (t.Kind == api.TypeUnion || t.Kind == api.TypeOpen)
}

// isSettled returns whether the types of a schema, and others in it, are settled.
func isSettled(s api.Schema, others ...api.Type) bool {
	for _, n := range s {
		if !isSettledType(s, n.Type) {
			return false
		}
	}
	for _, t := range others {
		if !isSettledType(s, t) {
			return false
		}
	}
	return true
}

// isSettledType is about the types within a type alone.
func isSettledType(s api.Schema, t api.Type) bool {
	for part := range within(&t) {
		if slices.ContainsFunc(part.Tags, isPlain) || hasWrongImplicit(s, *part) {
			return false
		}
	}
	return true
}

func isPlain(g api.Tag) bool { return g.Way == api.TagPlain }

// putAutomatic puts automatic tags into the types within a type.
func putAutomatic(t *api.Type) {
	for part := range within(t) {
		if !isAutomatic(*part) {
			continue
		}
		for i := range part.Fields {
			part.Fields[i].Type.Tags = []api.Tag{{Class: api.ClassContext, Number: i}}
		}
	}
}

// isAutomatic returns whether the fields of a type get automatic tags.
func isAutomatic(t api.Type) bool {
	switch t.Kind {
	case api.TypeRecord, api.TypeSet, api.TypeUnion:
		return !slices.ContainsFunc(t.Fields, func(f api.Field) bool { return len(f.Type.Tags) > 0 })
	}
	return false
}
