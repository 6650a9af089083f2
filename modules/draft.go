package modules

import (
	"cmp"
	"slices"

	"examiner/api"
	"examiner/copies"
)

// A draft is the schema of a module while it is made, and how the module of each type is tagged.
type draft struct {
	schema api.Schema
	ways   []int
}

// draftOf returns the types that a module has and reaches, as they are written, but with the names of the schema.
func (p program) draftOf(module int) (draft, api.Errno) {
	sources := p.reached(module)
	slices.SortFunc(sources, func(a, b api.ModulePlace) int {
		return cmp.Compare(p.nameFor(module, a), p.nameFor(module, b))
	})
	var d draft
	for _, at := range sources {
		d.schema = append(d.schema, api.Named{Name: p.nameFor(module, at), Type: p.typeFor(module, at)})
		d.ways = append(d.ways, p[at.Module].Way)
	}
	switch {
	case slices.ContainsFunc(d.schema, func(n api.Named) bool { return len(n.Name) > api.MaxName }):
		return draft{}, api.ErrName
	case len(d.schema) > api.MaxTypes:
		return draft{}, api.ErrLarge
	}
	return d, api.OK
}

// reached returns where the types are that a module has, or reaches from its types and those of its values.
func (p program) reached(module int) []api.ModulePlace {
	var found, users []api.ModulePlace
	for i, a := range p[module].Items {
		at := api.ModulePlace{Module: module, Item: i}
		if a.Kind == api.ItemType {
			found = append(found, at)
		} else {
			users = append(users, at)
		}
	}
	for _, at := range users {
		found = p.withUsed(found, at)
	}
	for i := 0; i < len(found); i++ {
		found = p.withUsed(found, found[i])
	}
	return found
}

// withUsed returns places and, behind them, those of the types that an item uses.
func (p program) withUsed(found []api.ModulePlace, user api.ModulePlace) []api.ModulePlace {
	a := p.item(user)
	for ref := range references(&a.Type) {
		if meant, _ := p.meaning(user.Module, ref.Name); !slices.Contains(found, meant) {
			found = append(found, meant)
		}
	}
	return found
}

// nameFor returns the name that a type has in the schema of a module.
func (p program) nameFor(module int, at api.ModulePlace) string {
	if at.Module == module {
		return p.item(at).Name
	}
	return p[at.Module].Name + "_" + p.item(at).Name
}

// typeFor returns the type of an item with the names that the schema of a module has.
func (p program) typeFor(module int, at api.ModulePlace) api.Type {
	t := copies.OfType(p.item(at).Type)
	for ref := range references(&t) {
		meant, _ := p.meaning(at.Module, ref.Name)
		ref.Name = p.nameFor(module, meant)
	}
	return t
}
