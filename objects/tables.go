package objects

import (
	"slices"

	"examiner/api"
	"examiner/copies"
	"examiner/notation"
)

// rowsOf returns the rows of an object set.
func rowsOf(m api.AsnModule, set api.Assigned) []api.ObjectRow {
	class, _ := itemOf(m, api.ItemClass, set.Of)
	var rows []api.ObjectRow
	for _, name := range set.Names {
		object, _ := itemOf(m, api.ItemObject, name)
		row := api.ObjectRow{Object: name}
		for _, f := range class.Class {
			g := settingOf(object, f.Name)
			typ := ""
			if len(g.Type) > 0 {
				typ = typeName(f.Name, name)
			}
			row.Values = append(row.Values, copies.OfValues(g.Value))
			row.Types = append(row.Types, typ)
		}
		rows = append(rows, row)
	}
	return rows
}

// rowsFor returns the rows of the object set of a table.
func rowsFor(m api.AsnModule, t api.Table) []api.ObjectRow {
	set, _ := itemOf(m, api.ItemObjects, t.Set)
	return rowsOf(m, set)
}

// hasValue returns whether a row has a value in a field.
func hasValue(row api.ObjectRow, field int, v api.Value) bool {
	return slices.ContainsFunc(row.Values[field], func(there api.Value) bool { return isSame(there, v) })
}

// formError is the error of the first value that is not well-formed.
func formError(l []api.Value) api.Errno {
	for _, v := range l {
		if e := notation.CheckForm(v); e != api.OK {
			return e
		}
	}
	return api.OK
}

// tablesOf returns the tables of a right module.
func tablesOf(m api.AsnModule) []api.Table {
	var l []api.Table
	for _, a := range m.Items {
		if a.Kind == api.ItemType && len(a.Params) == 0 {
			f := tableFinder{module: m, typ: a.Name}
			f.find(a.Type, nil)
			l = append(l, f.found...)
		}
	}
	return l
}

// A tableFinder finds the tables of one type of a module.
type tableFinder struct {
	module api.AsnModule
	typ    string
	found  []api.Table
}

// find finds the tables within a type that stands at a way.
func (f *tableFinder) find(t api.Type, way []int) {
	for i, field := range t.Fields {
		if isRecord(t) && isClassUse(field.Type) {
			f.meet(t, field, way)
		}
		f.find(field.Type, slices.Concat(way, []int{i}))
	}
	for _, of := range t.Of {
		f.find(of, slices.Concat(way, []int{0}))
	}
}

// meet is about a component of a record at a way that is a field of a class. Of one that has a type there is no table.
func (f *tableFinder) meet(record api.Type, open api.Field, way []int) {
	u := classUseOf(open.Type)
	class, _ := itemOf(f.module, api.ItemClass, u.class)
	number := fieldOf(class, u.field)
	if len(class.Class[number].Fixed) > 0 {
		return
	}
	f.found = append(f.found, api.Table{
		Type: f.typ, Way: slices.Clone(way),
		Id: u.component, Open: open.Name,
		Set:     u.set,
		IdField: idField(record, class, u.component), Field: number,
	})
}

// idField returns the number of the field of a class that a component of a record is, or None.
func idField(record api.Type, class api.Assigned, component string) int {
	for _, f := range record.Fields {
		if f.Name != component || !isClassUse(f.Type) {
			continue
		}
		if u := classUseOf(f.Type); u.class == class.Name {
			return fieldOf(class, u.field)
		}
	}
	return api.None
}
