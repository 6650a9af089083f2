package notation

import (
	"slices"

	"examiner/api"
)

// headError is about what stands before the items of a module.
func headError(m api.AsnModule) api.Errno {
	e := firstBroken(
		rule{api.ErrName, func() bool { return !isCapital(m.Name) }},
		rule{api.ErrRange, func() bool { return m.Way < 0 || m.Way >= api.Ways }},
		rule{api.ErrLarge, func() bool {
			return len(m.Items) > api.MaxAssigned || len(m.Exports) > api.MaxItems || len(m.Imports) > api.MaxAsnImports
		}},
		rule{api.ErrForm, func() bool { return m.All && len(m.Exports) > 0 }},
	)
	if e != api.OK {
		return e
	}
	if e := namesError(m.Exports, isAsnName); e != api.OK {
		return e
	}
	for i := range m.Imports {
		if e := importError(m, i); e != api.OK {
			return e
		}
	}
	return api.OK
}

// importError is about one import of a module.
func importError(m api.AsnModule, index int) api.Errno {
	p := m.Imports[index]
	e := firstBroken(
		rule{api.ErrName, func() bool { return !isCapital(p.Module) }},
		rule{api.ErrDouble, func() bool { return p.Module == m.Name || importsFrom(m.Imports[:index], p.Module) }},
		rule{api.ErrEmpty, func() bool { return len(p.Names) == 0 }},
		rule{api.ErrLarge, func() bool { return len(p.Names) > api.MaxItems }},
	)
	if e != api.OK {
		return e
	}
	for i, name := range p.Names {
		switch {
		case !isAsnName(name):
			return api.ErrName
		case isRepeated(p.Names, i) || imports(m.Imports[:index], name):
			return api.ErrExists
		}
	}
	return api.OK
}

func importsFrom(l []api.Import, module string) bool {
	return slices.ContainsFunc(l, func(p api.Import) bool { return p.Module == module })
}

func imports(l []api.Import, name string) bool {
	return slices.ContainsFunc(l, func(p api.Import) bool { return slices.Contains(p.Names, name) })
}

func hasItem(l []api.Assigned, name string) bool {
	return slices.ContainsFunc(l, func(a api.Assigned) bool { return a.Name == name })
}

// hasAllExports returns whether the module has, or imports, what it gives to others.
func hasAllExports(m api.AsnModule) bool {
	for _, name := range m.Exports {
		if !imports(m.Imports, name) && !hasItem(m.Items, name) {
			return false
		}
	}
	return true
}

// itemParts says what items of a kind have beside their names, and whether these begin with a capital letter.
type itemParts struct{ params, typ, value, class, of, settings, names, open, capital bool }

var partsOfItems = [api.ItemKinds]itemParts{
	api.ItemType:    {params: true, typ: true, capital: true},
	api.ItemValue:   {typ: true, value: true},
	api.ItemClass:   {class: true, capital: true},
	api.ItemObject:  {of: true, settings: true},
	api.ItemObjects: {of: true, names: true, open: true, capital: true},
}

// areExceeded returns whether an item has something that its kind does not have.
func (p itemParts) areExceeded(a api.Assigned) bool {
	return !p.params && len(a.Params) > 0 || !p.typ && !isZeroType(a.Type) || !p.value && !isZeroValue(a.Value) ||
		!p.class && len(a.Class) > 0 || !p.of && a.Of != "" || !p.settings && len(a.Settings) > 0 ||
		!p.names && len(a.Names) > 0 || !p.open && a.Open
}

// itemError is about one item of a module.
func itemError(m api.AsnModule, index int) api.Errno {
	a := m.Items[index]
	if a.Kind < 0 || a.Kind >= api.ItemKinds {
		return api.ErrKind
	}
	has := partsOfItems[a.Kind]
	letter := isSmall
	if has.capital {
		letter = isCapital
	}
	e := firstBroken(
		rule{api.ErrForm, func() bool { return has.areExceeded(a) }},
		rule{api.ErrName, func() bool { return !letter(a.Name) }},
		rule{api.ErrExists, func() bool { return imports(m.Imports, a.Name) || hasItem(m.Items[:index], a.Name) }},
		rule{api.ErrName, func() bool { return has.of && !isCapital(a.Of) }},
	)
	if e != api.OK {
		return e
	}
	bodies := [api.ItemKinds]func(api.Assigned) api.Errno{
		api.ItemType:    typeItemError,
		api.ItemValue:   valueItemError,
		api.ItemClass:   classItemError,
		api.ItemObject:  objectItemError,
		api.ItemObjects: objectsItemError,
	}
	return bodies[a.Kind](a)
}

func typeItemError(a api.Assigned) api.Errno {
	if len(a.Params) > api.MaxParams {
		return api.ErrLarge
	}
	if e := namesError(a.Params, isCapital); e != api.OK {
		return e
	}
	return CheckType(a.Type)
}

func valueItemError(a api.Assigned) api.Errno {
	if e := CheckType(a.Type); e != api.OK {
		return e
	}
	return CheckForm(a.Value)
}

func classItemError(a api.Assigned) api.Errno {
	return partsError(len(a.Class), func(i int) api.Errno { return classFieldError(a.Class, i) })
}

// partsError is about the fields of a class, or the settings of an object.
func partsError(count int, partError func(int) api.Errno) api.Errno {
	switch {
	case count == 0:
		return api.ErrEmpty
	case count > api.MaxClass:
		return api.ErrLarge
	}
	for i := range count {
		if e := partError(i); e != api.OK {
			return e
		}
	}
	return api.OK
}

// classFieldError is about one field of a class.
func classFieldError(l []api.ClassField, index int) api.Errno {
	f := l[index]
	letter := isCapital
	if len(f.Fixed) > 0 {
		letter = isSmall
	}
	e := firstBroken(
		rule{api.ErrName, func() bool { return !letter(f.Name) }},
		rule{api.ErrDouble, func() bool {
			return slices.ContainsFunc(l[:index], func(g api.ClassField) bool { return g.Name == f.Name })
		}},
		rule{api.ErrShape, func() bool { return len(f.Fixed) > 1 }},
		rule{api.ErrForm, func() bool { return f.Unique && len(f.Fixed) == 0 }},
	)
	if e != api.OK || len(f.Fixed) == 0 {
		return e
	}
	return CheckType(f.Fixed[0])
}

func objectItemError(a api.Assigned) api.Errno {
	return partsError(len(a.Settings), func(i int) api.Errno { return settingError(a.Settings, i) })
}

// settingError is about one setting of an object.
func settingError(l []api.Setting, index int) api.Errno {
	g := l[index]
	letter := isAsnName
	switch {
	case len(g.Value) > 0:
		letter = isSmall
	case len(g.Type) > 0:
		letter = isCapital
	}
	e := firstBroken(
		rule{api.ErrName, func() bool { return !letter(g.Name) }},
		rule{api.ErrDouble, func() bool {
			return slices.ContainsFunc(l[:index], func(h api.Setting) bool { return h.Name == g.Name })
		}},
		rule{api.ErrShape, func() bool { return len(g.Value)+len(g.Type) != 1 }},
	)
	switch {
	case e != api.OK:
		return e
	case len(g.Value) == 1:
		return CheckForm(g.Value[0])
	}
	return CheckType(g.Type[0])
}

func objectsItemError(a api.Assigned) api.Errno {
	if len(a.Names) > api.MaxItems {
		return api.ErrLarge
	}
	return namesError(a.Names, isSmall)
}
