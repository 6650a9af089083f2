package modules

import (
	"slices"

	"examiner/api"
)

// itemNamed returns the index of the item of a module with a name, or None.
func itemNamed(m api.AsnModule, name string) int {
	return slices.IndexFunc(m.Items, func(a api.Assigned) bool { return a.Name == name })
}

// exporterOf returns the name of the module from which a module imports a name, or none.
func exporterOf(m api.AsnModule, name string) string {
	for _, imported := range m.Imports {
		if slices.Contains(imported.Names, name) {
			return imported.Module
		}
	}
	return ""
}

// gives returns whether a module has a name, an item or something that it imports, and gives it to others.
func gives(m api.AsnModule, name string) bool {
	has := exporterOf(m, name) != "" || itemNamed(m, name) != api.None
	return has && (m.All || slices.Contains(m.Exports, name))
}

// exporter returns the index of the module from which a module imports a name, or None.
func (p program) exporter(module int, name string) int {
	return p.moduleNamed(exporterOf(p[module], name))
}

// leadsBack returns whether a name leads from import to import back to a module where it was.
func (p program) leadsBack(module int, name string) bool {
	var been []int
	for module != api.None {
		if slices.Contains(been, module) {
			return true
		}
		been = append(been, module)
		module = p.exporter(module, name)
	}
	return false
}

// meaning returns the item that a name means in a module, if the module sees one. Imports must not lead back.
func (p program) meaning(module int, name string) (api.ModulePlace, bool) {
	for module != api.None {
		if item := itemNamed(p[module], name); item != api.None {
			return api.ModulePlace{Module: module, Item: item}, true
		}
		module = p.exporter(module, name)
	}
	return api.ModulePlace{}, false
}
