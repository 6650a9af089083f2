package objects

import (
	"slices"

	"examiner/api"
	"examiner/values"
)

// itemOf returns the item of a module that has a kind and a name, if there is one.
func itemOf(m api.AsnModule, kind int, name string) (api.Assigned, bool) {
	for _, a := range m.Items {
		if a.Kind == kind && a.Name == name {
			return a, true
		}
	}
	return api.Assigned{}, false
}

// hasItem returns whether a module has an item with a name.
func hasItem(m api.AsnModule, name string) bool {
	return slices.ContainsFunc(m.Items, func(a api.Assigned) bool { return a.Name == name })
}

// imports returns whether a module imports a name.
func imports(m api.AsnModule, name string) bool {
	return slices.ContainsFunc(m.Imports, func(p api.Import) bool { return slices.Contains(p.Names, name) })
}

// isPart returns whether an item is one that a program may have, if what it uses is put in.
func isPart(a api.Assigned) bool {
	return a.Kind == api.ItemType && len(a.Params) == 0 || a.Kind == api.ItemValue
}

// fieldOf returns the number of the field of a class with a name, or None.
func fieldOf(class api.Assigned, name string) int {
	return slices.IndexFunc(class.Class, func(f api.ClassField) bool { return f.Name == name })
}

// settingOf returns what an object has in a field: nothing, if it is not set.
func settingOf(object api.Assigned, field string) api.Setting {
	for _, g := range object.Settings {
		if g.Name == field {
			return g
		}
	}
	return api.Setting{}
}

// A classUse is what a type says that is a field of a class. The component is one that says which object, or none.
type classUse struct{ class, field, set, component string }

// classUseOf returns what a type says that is known to be a field of a class.
func classUseOf(t api.Type) classUse {
	u := classUse{class: t.Fields[0].Name, field: t.Name, set: t.Fields[1].Name}
	if len(t.Fields) > 2 {
		u.component = t.Fields[2].Name
	}
	return u
}

// isSame returns whether two values that are well-formed are the same, as they are written.
func isSame(a, b api.Value) bool {
	order, e := values.Compare(a, b)
	return e == api.OK && order == 0
}
