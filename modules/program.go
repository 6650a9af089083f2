package modules

import (
	"iter"
	"slices"

	"examiner/api"
	"examiner/notation"
)

// A program is modules that may import from one another.
type program []api.AsnModule

// indexError is the error of a program, then that of the index of a module.
func indexError(l []api.AsnModule, module int) api.Errno {
	if _, e := CheckProgram(l); e != api.OK {
		return e
	}
	if module < 0 || module >= len(l) {
		return api.ErrRange
	}
	return api.OK
}

// moduleNamed returns the index of the module with a name, or None.
func (p program) moduleNamed(name string) int {
	return slices.IndexFunc(p, func(m api.AsnModule) bool { return m.Name == name })
}

// places yields where the items are, module by module.
func (p program) places() iter.Seq[api.ModulePlace] {
	return func(yield func(api.ModulePlace) bool) {
		for i, m := range p {
			for j := range m.Items {
				if !yield(api.ModulePlace{Module: i, Item: j}) {
					return
				}
			}
		}
	}
}

// item returns the item at a place.
func (p program) item(at api.ModulePlace) api.Assigned { return p[at.Module].Items[at.Item] }

// moduleError is about a module by itself, and its name.
func (p program) moduleError(module int) (int, api.Errno) {
	if item, e := notation.CheckModule(p[module]); e != api.OK {
		return item, e
	}
	if p.moduleNamed(p[module].Name) < module {
		return 0, api.ErrExists
	}
	return 0, api.OK
}

// importsError is about what a module imports.
func (p program) importsError(module int) api.Errno {
	for _, imported := range p[module].Imports {
		from := p.moduleNamed(imported.Module)
		if from == api.None {
			return api.ErrMissing
		}
		for _, name := range imported.Names {
			switch {
			case !gives(p[from], name):
				return api.ErrScope
			case p.leadsBack(module, name):
				return api.ErrLoop
			}
		}
	}
	return api.OK
}

// itemError is about an item as a part of a program.
func (p program) itemError(at api.ModulePlace) api.Errno {
	a := p.item(at)
	if !isPart(a) {
		return api.ErrRefused
	}
	for ref := range references(&a.Type) {
		meant, isSeen := p.meaning(at.Module, ref.Name)
		switch {
		case !isSeen:
			return api.ErrMissing
		case p.item(meant).Kind != api.ItemType:
			return api.ErrType
		}
	}
	return api.OK
}

// isPart returns whether an item may be one of a program: what chapter 7 expands may not.
func isPart(a api.Assigned) bool {
	if a.Kind != api.ItemType && a.Kind != api.ItemValue || len(a.Params) > 0 {
		return false
	}
	for t := range within(&a.Type) {
		if isUse(*t) {
			return false
		}
	}
	return true
}

// isUse returns whether a type has actual parameters, or is a field of a class.
func isUse(t api.Type) bool {
	return (t.Kind == api.TypeRef || t.Kind == api.TypeOpen) && len(t.Fields) > 0
}
