package notation

import "examiner/api"

// wayWords are the words for how the types of a module are tagged.
var wayWords = [api.Ways]string{api.WayExplicit: "EXPLICIT", api.WayImplicit: "IMPLICIT", api.WayAutomatic: "AUTOMATIC"}

// module writes a module that is right.
func (w *writer) module(m api.AsnModule) {
	w.capitalName(m.Name)
	w.fixed("DEFINITIONS", wayWords[m.Way], "TAGS", "::=", "BEGIN")
	w.line()
	w.exports(m)
	if len(m.Imports) > 0 {
		w.line()
		w.imports(m.Imports)
	}
	for _, a := range m.Items {
		w.line()
		w.assigned(a)
	}
	w.line()
	w.fixed("END")
}

func (w *writer) exports(m api.AsnModule) {
	w.fixed("EXPORTS")
	if m.All {
		w.fixed("ALL")
	}
	writeList(w, ",", m.Exports, w.anyName)
	w.fixed(";")
}

func (w *writer) imports(l []api.Import) {
	w.fixed("IMPORTS")
	for _, p := range l {
		writeList(w, ",", p.Names, w.anyName)
		w.fixed("FROM")
		w.capitalName(p.Module)
	}
	w.fixed(";")
}

// assigned writes an item.
func (w *writer) assigned(a api.Assigned) {
	w.anyName(a.Name)
	bodies := [api.ItemKinds]func(api.Assigned){
		api.ItemType:    w.typeItem,
		api.ItemValue:   w.valueItem,
		api.ItemClass:   w.classItem,
		api.ItemObject:  w.objectItem,
		api.ItemObjects: w.objectsItem,
	}
	bodies[a.Kind](a)
}

func (w *writer) typeItem(a api.Assigned) {
	if len(a.Params) > 0 {
		w.fixed("{")
		writeList(w, ",", a.Params, w.capitalName)
		w.fixed("}")
	}
	w.fixed("::=")
	w.typ(a.Type)
}

func (w *writer) valueItem(a api.Assigned) {
	w.typ(a.Type)
	w.fixed("::=")
	w.value(a.Value)
}

func (w *writer) classItem(a api.Assigned) {
	w.fixed("::=", "CLASS", "{")
	writeList(w, ",", a.Class, w.classField)
	w.fixed("}")
}

func (w *writer) classField(f api.ClassField) {
	w.fixed("&")
	w.anyName(f.Name)
	for _, t := range f.Fixed {
		w.typ(t)
	}
	if f.Unique {
		w.fixed("UNIQUE")
	}
	if f.Optional {
		w.fixed("OPTIONAL")
	}
}

func (w *writer) objectItem(a api.Assigned) {
	w.capitalName(a.Of)
	w.fixed("::=", "{")
	writeList(w, ",", a.Settings, w.setting)
	w.fixed("}")
}

func (w *writer) setting(g api.Setting) {
	w.fixed("&")
	w.anyName(g.Name)
	for _, v := range g.Value {
		w.value(v)
	}
	for _, t := range g.Type {
		w.typ(t)
	}
}

func (w *writer) objectsItem(a api.Assigned) {
	w.capitalName(a.Of)
	w.fixed("::=", "{")
	writeList(w, "|", a.Names, w.smallName)
	if a.Open {
		if len(a.Names) > 0 {
			w.fixed(",")
		}
		w.fixed("...")
	}
	w.fixed("}")
}
