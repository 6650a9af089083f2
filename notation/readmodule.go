package notation

import "examiner/api"

// module reads a module.
func (r *reader) module() api.AsnModule {
	var m api.AsnModule
	m.Name = r.capitalName()
	r.must("DEFINITIONS")
	m.Way = r.way()
	r.must("TAGS", "::=", "BEGIN", "EXPORTS")
	m.All = r.takes("ALL")
	if !m.All && !r.sees(";") {
		m.Exports = readList(r, ",", r.anyName)
	}
	r.must(";")
	if r.takes("IMPORTS") {
		m.Imports = r.imports()
	}
	for !r.takes("END") {
		a := r.assigned()
		m.Items = append(m.Items, a)
	}
	return m
}

func (r *reader) way() int {
	for way, word := range wayWords {
		if r.takes(word) {
			return way
		}
	}
	r.wrong()
	return api.None
}

func (r *reader) imports() []api.Import {
	var l []api.Import
	for more := true; more; more = !r.takes(";") {
		var p api.Import
		p.Names = readList(r, ",", r.anyName)
		r.must("FROM")
		p.Module = r.capitalName()
		l = append(l, p)
	}
	return l
}

// assigned reads an item.
func (r *reader) assigned() api.Assigned {
	if r.seesName(isSmall) {
		name := r.smallName()
		if r.seesObject() {
			return r.objectItem(name)
		}
		return r.valueItem(name)
	}
	name := r.capitalName()
	switch {
	case r.seesName(isCapital):
		return r.objectsItem(name)
	case r.sees("::=") && r.tokenAt(1).Text == "CLASS":
		return r.classItem(name)
	}
	return r.typeItem(name)
}

// seesObject returns whether the item whose name was read is an object: a value of a type with a name begins alike, but not with a field of a class.
func (r *reader) seesObject() bool {
	return r.seesName(isCapital) && r.tokenAt(1).Text == "::=" && r.tokenAt(2).Text == "{" && r.tokenAt(3).Text == "&"
}

func (r *reader) typeItem(name string) api.Assigned {
	a := api.Assigned{Kind: api.ItemType, Name: name}
	if r.takes("{") {
		a.Params = readList(r, ",", r.capitalName)
		r.must("}")
	}
	r.must("::=")
	a.Type = r.typ()
	return a
}

func (r *reader) valueItem(name string) api.Assigned {
	a := api.Assigned{Kind: api.ItemValue, Name: name}
	a.Type = r.typ()
	r.must("::=")
	a.Value = r.value()
	return a
}

func (r *reader) classItem(name string) api.Assigned {
	a := api.Assigned{Kind: api.ItemClass, Name: name}
	r.must("::=", "CLASS", "{")
	a.Class = readList(r, ",", r.classField)
	r.must("}")
	return a
}

// classField reads a field of a class, which has a type if its name begins with a small letter.
func (r *reader) classField() api.ClassField {
	var f api.ClassField
	r.must("&")
	f.Name = r.anyName()
	if isSmall(f.Name) {
		t := r.typ()
		f.Fixed = []api.Type{t}
		f.Unique = r.takes("UNIQUE")
	}
	f.Optional = r.takes("OPTIONAL")
	return f
}

func (r *reader) objectItem(name string) api.Assigned {
	a := api.Assigned{Kind: api.ItemObject, Name: name}
	a.Of = r.capitalName()
	r.must("::=", "{")
	a.Settings = readList(r, ",", r.setting)
	r.must("}")
	return a
}

// setting reads what an object has in a field: a value if its name begins with a small letter.
func (r *reader) setting() api.Setting {
	var g api.Setting
	r.must("&")
	g.Name = r.anyName()
	if isSmall(g.Name) {
		g.Value = r.oneValue()
		return g
	}
	t := r.typ()
	g.Type = []api.Type{t}
	return g
}

func (r *reader) objectsItem(name string) api.Assigned {
	a := api.Assigned{Kind: api.ItemObjects, Name: name}
	a.Of = r.capitalName()
	r.must("::=", "{")
	if r.seesName(isSmall) {
		a.Names = readList(r, "|", r.smallName)
		a.Open = r.takes(",")
		if a.Open {
			r.must("...")
		}
	} else {
		a.Open = r.takes("...")
	}
	r.must("}")
	return a
}
