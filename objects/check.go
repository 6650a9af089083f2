package objects

import (
	"slices"

	"examiner/api"
	"examiner/notation"
)

// indexError is the error of modules, then that of the index of one of them.
func indexError(l []api.AsnModule, module int) api.Errno {
	if _, e := CheckObjects(l); e != api.OK {
		return e
	}
	if module < 0 || module >= len(l) {
		return api.ErrRange
	}
	return api.OK
}

// moduleNamed returns the index of the first module with a name, or None.
func moduleNamed(l []api.AsnModule, name string) int {
	return slices.IndexFunc(l, func(m api.AsnModule) bool { return m.Name == name })
}

// moduleError is about a module by itself, and its name.
func moduleError(l []api.AsnModule, module int) (int, api.Errno) {
	if item, e := notation.CheckModule(l[module]); e != api.OK {
		return item, e
	}
	if moduleNamed(l, l[module].Name) < module {
		return 0, api.ErrExists
	}
	return 0, api.OK
}

// importsRefused returns whether a module imports what is used in its own module alone.
func importsRefused(l []api.AsnModule, m api.AsnModule) bool {
	for _, imported := range m.Imports {
		from := moduleNamed(l, imported.Module)
		if from == api.None {
			continue
		}
		isRefused := func(a api.Assigned) bool { return !isPart(a) && slices.Contains(imported.Names, a.Name) }
		if slices.ContainsFunc(l[from].Items, isRefused) {
			return true
		}
	}
	return false
}

// itemError is about what an item uses, and about classes, objects and object sets.
func itemError(m api.AsnModule, a api.Assigned) api.Errno {
	for _, t := range typesOf(a) {
		for inner := range inOrder(&t) {
			if e := useError(m, a.Params, *inner); e != api.OK {
				return e
			}
		}
	}
	switch a.Kind {
	case api.ItemClass:
		return classError(a)
	case api.ItemObject:
		return objectError(m, a)
	case api.ItemObjects:
		return setError(m, a)
	}
	return api.OK
}

// useError is about one type as a use, where some names are parameters.
func useError(m api.AsnModule, params []string, t api.Type) api.Errno {
	switch {
	case isParameterUse(t):
		return parameterUseError(m, params, t)
	case isClassUse(t):
		return classUseError(m, classUseOf(t))
	}
	return api.OK
}

func parameterUseError(m api.AsnModule, params []string, t api.Type) api.Errno {
	a, isThere := itemOf(m, api.ItemType, t.Name)
	switch {
	case !isThere || len(a.Params) == 0 || slices.Contains(params, t.Name): // a parameter hides the module's type
		return api.ErrMissing
	case len(a.Params) != len(t.Fields):
		return api.ErrArity
	}
	return api.OK
}

func classUseError(m api.AsnModule, u classUse) api.Errno {
	class, hasClass := itemOf(m, api.ItemClass, u.class)
	set, hasSet := itemOf(m, api.ItemObjects, u.set)
	switch {
	case !hasClass || fieldOf(class, u.field) == api.None || !hasSet:
		return api.ErrMissing
	case set.Of != u.class:
		return api.ErrType
	}
	return api.OK
}

// classError is about a class: its types use no class, so that expanding ends.
func classError(a api.Assigned) api.Errno {
	for _, t := range typesOf(a) {
		for inner := range inOrder(&t) {
			if isClassUse(*inner) {
				return api.ErrRefused
			}
		}
	}
	return api.OK
}

// objectError is about an object: what it has, and then what it has not.
func objectError(m api.AsnModule, a api.Assigned) api.Errno {
	class, isThere := itemOf(m, api.ItemClass, a.Of)
	if !isThere {
		return api.ErrMissing
	}
	for _, g := range a.Settings {
		field := fieldOf(class, g.Name)
		switch {
		case field == api.None:
			return api.ErrMissing
		case len(g.Value) != len(class.Class[field].Fixed): // the letters of names rule it out in modules that are right by themselves
			return api.ErrType
		}
	}
	for _, f := range class.Class {
		if !f.Optional && settingOf(a, f.Name).Name == "" {
			return api.ErrUnbound
		}
	}
	return api.OK
}

// setError is about an object set: its objects, and then what must be unlike.
func setError(m api.AsnModule, a api.Assigned) api.Errno {
	class, isThere := itemOf(m, api.ItemClass, a.Of)
	if !isThere {
		return api.ErrMissing
	}
	for _, name := range a.Names {
		object, isThere := itemOf(m, api.ItemObject, name)
		switch {
		case !isThere:
			return api.ErrMissing
		case object.Of != a.Of:
			return api.ErrType
		}
	}
	for _, f := range class.Class {
		if f.Unique && hasTwice(valuesIn(m, a, f.Name)) {
			return api.ErrDouble
		}
	}
	return api.OK
}

// valuesIn returns the values that the objects of a set have in a field, in the order of the set.
func valuesIn(m api.AsnModule, set api.Assigned, field string) []api.Value {
	var l []api.Value
	for _, name := range set.Names {
		object, _ := itemOf(m, api.ItemObject, name)
		l = append(l, settingOf(object, field).Value...)
	}
	return l
}

// hasTwice returns whether one of several values is there twice.
func hasTwice(l []api.Value) bool {
	for i, v := range l {
		if slices.ContainsFunc(l[:i], func(before api.Value) bool { return isSame(before, v) }) {
			return true
		}
	}
	return false
}
