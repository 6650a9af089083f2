package modules

import (
	"slices"

	"examiner/api"
	"examiner/copies"
)

// isNamed returns whether a schema has a type with a name.
func isNamed(s api.Schema, name string) bool {
	_, is := lookUp(s, name)
	return is
}

// namesIn returns the names of the types that a type uses, ascending.
func namesIn(t api.Type) []string {
	var names []string
	for ref := range references(&t) {
		names = append(names, ref.Name)
	}
	slices.Sort(names)
	return slices.Compact(names)
}

// usesOf returns what each type of a schema uses.
func usesOf(s api.Schema) []api.TypeUses {
	var all []api.TypeUses
	for _, n := range s {
		all = append(all, api.TypeUses{Names: namesIn(n.Type)})
	}
	for i, n := range s {
		all[i].Circle = reaches(s, all, i, n.Name)
	}
	return all
}

// reaches returns whether a type, given by its index, uses one with a name, directly or by others.
func reaches(s api.Schema, all []api.TypeUses, from int, name string) bool {
	reached := slices.Clone(all[from].Names)
	for i := 0; i < len(reached); i++ {
		at := slices.IndexFunc(s, func(n api.Named) bool { return n.Name == reached[i] })
		for _, next := range all[at].Names {
			if !slices.Contains(reached, next) {
				reached = append(reached, next)
			}
		}
	}
	return slices.Contains(reached, name)
}

// unfold puts the types that references within a type name in their places.
func unfold(s api.Schema, t *api.Type) api.Errno {
	if t.Kind != api.TypeRef {
		return changeInner(t, func(inner *api.Type) api.Errno { return unfold(s, inner) })
	}
	tagsBefore := t.Tags
	*t = copies.OfType(named(s, t.Name))
	t.Tags = slices.Concat(tagsBefore, t.Tags)
	return api.OK
}
