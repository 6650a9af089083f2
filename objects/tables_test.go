package objects_test

import (
	"fmt"
	"testing"

	"examiner/api"
	"examiner/objects"
)

// one returns values each of which stands in a field by itself, none where there is nothing.
func one(l ...any) [][]api.Value {
	var out [][]api.Value
	for _, x := range l {
		v, is := x.(api.Value)
		if is {
			out = append(out, []api.Value{v})
		} else {
			out = append(out, nil)
		}
	}
	return out
}

// P7.3: the rows of object sets.
func TestRowsOf(t *testing.T) {
	l := programOf(t, "N EXPLICIT ", "M EXPLICIT"+someObjects)
	x := api.ObjectRow{Object: "x", Values: one(number(1), nil, nil, nil), Types: []string{"", "Type-x", "", ""}}
	y := api.ObjectRow{Object: "y", Values: one(number(2), nil, chars("y"), nil), Types: []string{"", "Type-y", "", "Other-y"}}
	z := api.ObjectRow{Object: "z", Values: one(number(3), nil, chars("y"), nil), Types: []string{"", "Type-z", "", ""}}
	for set, want := range map[string][]api.ObjectRow{"S": {x, y}, "R": {z, y, x}, "E": nil, "O": nil} {
		rows, e := objects.RowsOf(l, 1, set)
		wantResult(t, "RowsOf "+set, rows, e, want, api.OK)
	}
	for _, f := range []struct {
		module int
		set    string
		want   api.Errno
	}{{1, "T", api.ErrMissing}, {1, "", api.ErrMissing}, {1, "C", api.ErrMissing}, {1, "x", api.ErrMissing}, {0, "S", api.ErrMissing}, {2, "S", api.ErrRange}, {-1, "T", api.ErrRange}} {
		rows, e := objects.RowsOf(l, f.module, f.set)
		wantResult(t, fmt.Sprint("RowsOf ", f.module, " ", f.set), rows, e, []api.ObjectRow{}, f.want)
	}
	rows, e := objects.RowsOf(programOf(t, "M EXPLICIT A ::= P{NULL}"), 5, "T")
	wantResult(t, "RowsOf of what is wrong", rows, e, []api.ObjectRow{}, api.ErrMissing)
	rows, e = objects.RowsOf(nil, 5, "T")
	wantResult(t, "RowsOf of nothing", rows, e, []api.ObjectRow{}, api.ErrEmpty)
	// values as they are written, and names of types as they would be; what cannot be expanded does not matter
	l = programOf(t, "M EXPLICIT S C ::= {x-with-a-name-that-is-much-too | y} C ::= CLASS {&bag SET OF INTEGER, &Type} A ::= B"+
		" x-with-a-name-that-is-much-too C ::= {&Type P{ANY}, &bag {3, 1}} y C ::= {&bag TRUE, &Type NULL} P{X} ::= X")
	rows, e = objects.RowsOf(l, 0, "S")
	wantResult(t, "RowsOf of what is not expanded", rows, e, []api.ObjectRow{
		{Object: "x-with-a-name-that-is-much-too", Values: one(list(number(3), number(1)), nil), Types: []string{"", "Type-x-with-a-name-that-is-much-too"}},
		{Object: "y", Values: one(api.Value{Kind: api.ValueBool, N: 1}, nil), Types: []string{"", "Type-y"}},
	}, api.OK)
}

// table returns a table without a way. Its field and that of its other component are those of the class of someObjects.
func table(typ, id, open, set string, idField, field int, way ...int) api.Table {
	return api.Table{Type: typ, Way: way, Id: id, Open: open, Set: set, IdField: idField, Field: field}
}

// P7.3: the tables of types.
func TestTablesOf(t *testing.T) {
	for text, want := range map[string][]api.Table{
		"A ::= NULL": nil,
		"A ::= SEQUENCE {i C.&id ({S}), v C.&Type ({S}{@i})}":         {table("A", "i", "v", "S", 0, 1)},
		"A ::= SET {v [1] C.&Type ({R}{@i}), i [2] C.&id ({S})}":      {table("A", "i", "v", "R", 0, 1)},
		"A ::= SEQUENCE {i C.&name ({S}), ..., v C.&Other ({S}{@i})}": {table("A", "i", "v", "S", 2, 3)},
		// without the other component, or with one that is no field of the class
		"A ::= SEQUENCE {i C.&id ({S}), v C.&Type ({S})}":                                         {table("A", "", "v", "S", api.None, 1)},
		"A ::= SEQUENCE {i C.&id ({S}), v C.&Type ({S}{@j})}":                                     {table("A", "j", "v", "S", api.None, 1)},
		"A ::= SEQUENCE {i INTEGER, v C.&Type ({S}{@i})}":                                         {table("A", "i", "v", "S", api.None, 1)},
		"A ::= SEQUENCE {i D.&id ({DD}), v C.&Type ({S}{@i})} D ::= CLASS {&id NULL} DD D ::= {}": {table("A", "i", "v", "S", api.None, 1)},
		"A ::= SEQUENCE {a SEQUENCE {i C.&id ({S})}, v C.&Type ({S}{@i})}":                        {table("A", "i", "v", "S", api.None, 1)},
		"A ::= SEQUENCE {i SEQUENCE OF C.&id ({S}), v C.&Type ({S}{@i})}":                         {table("A", "i", "v", "S", api.None, 1)},
		"A ::= SEQUENCE {i ANY, v C.&Type ({S}{@i})}":                                             {table("A", "i", "v", "S", api.None, 1)},
		// open types that say what is in others, or in themselves
		"A ::= SEQUENCE {i C.&Other ({S}), v C.&Type ({S}{@i})}": {table("A", "", "i", "S", api.None, 3), table("A", "i", "v", "S", 3, 1)},
		"A ::= SEQUENCE {v C.&Type ({S}{@v})}":                   {table("A", "v", "v", "S", 1, 1)},
		// not in records
		"A ::= C.&Type ({S})":                               nil,
		"A ::= CHOICE {i C.&id ({S}), v C.&Type ({S}{@i})}": nil,
		"A ::= SEQUENCE OF C.&Type ({S}{@i})":               nil,
		"A ::= SEQUENCE {i C.&id ({S}), v SEQUENCE OF C.&Type ({S}{@i}), w C.&id ({S}{@i})}": nil,
		"v SEQUENCE {i C.&id ({S}), v C.&Type ({S}{@i})} ::= 1":                              nil,
		"A{X} ::= SEQUENCE {i C.&id ({S}), v C.&Type ({S}{@i}), x X} B ::= A{NULL}":          nil,
		// in the order in which types are gone through, with the ways to the records
		"A ::= SEQUENCE {u C.&Type ({E}{@i}), i C.&id ({S}), a SET OF CHOICE {n NULL, s SET {w C.&Other ({O}{@j}), j C.&id ({S})}}, v C.&Type ({S}{@i})} B ::= SEQUENCE OF SEQUENCE {v C.&Type ({R})}": {
			table("A", "i", "u", "E", 0, 1), table("A", "j", "w", "O", 0, 3, 2, 0, 1), table("A", "i", "v", "S", 0, 1), table("B", "", "v", "R", api.None, 1, 0)},
		"A ::= CHOICE {a SEQUENCE {v C.&Type ({S})}, ..., b SEQUENCE {n NULL, c SEQUENCE {v C.&Type ({R})}}}": {
			table("A", "", "v", "S", api.None, 1, 0), table("A", "", "v", "R", api.None, 1, 1, 1)},
		"B ::= SEQUENCE {v C.&Type ({S})} A ::= SEQUENCE {v C.&Type ({R}), b B}": {
			table("B", "", "v", "S", api.None, 1), table("A", "", "v", "R", api.None, 1)},
		// in actual parameters, which are types within it
		"A ::= SEQUENCE {b P{NULL, SEQUENCE {v C.&Type ({S})}}} P{X, Y} ::= X": {table("A", "", "v", "S", api.None, 1, 0, 1)},
	} {
		tables, e := objects.TablesOf(programOf(t, "N EXPLICIT B ::= SEQUENCE {v C.&Type ({S})}"+someObjects, "M EXPLICIT "+text+someObjects), 1)
		wantResult(t, text, tables, e, want, api.OK)
	}
	l := programOf(t, "M EXPLICIT A ::= P{NULL} P{X} ::= SEQUENCE {a P{SET OF X}} B ::= SEQUENCE {a D, v C.&Type ({S})}"+someObjects)
	tables, e := objects.TablesOf(l, 0)
	wantResult(t, "what cannot be expanded", tables, e, []api.Table{table("B", "", "v", "S", api.None, 1)}, api.OK)
	for _, module := range []int{-1, 1} {
		tables, e = objects.TablesOf(l, module)
		wantResult(t, "another module", tables, e, []api.Table{}, api.ErrRange)
	}
	l[0].Items[0].Type.Name = "Q"
	tables, e = objects.TablesOf(l, 1)
	wantResult(t, "what is wrong", tables, e, []api.Table{}, api.ErrMissing)
}

// P7.3: the first row that has a value.
func TestRowFor(t *testing.T) {
	row := func(l ...any) api.ObjectRow { return api.ObjectRow{Object: "x", Values: one(l...)} }
	rows := []api.ObjectRow{row(number(1), nil), row(nil, number(1)), row(number(2), number(1)), row(number(2), number(2)), row(list(number(1), number(2)), nil), row(record(""), nil)}
	for _, x := range []struct {
		field int
		v     api.Value
		want  int
		e     api.Errno
	}{
		{0, number(1), 0, api.OK},
		{0, number(2), 2, api.OK},
		{1, number(1), 1, api.OK},
		{1, number(2), 3, api.OK},
		{0, list(number(1), number(2)), 4, api.OK},
		{0, bag(number(1), number(2)), 0, api.ErrNone},
		{0, list(number(2), number(1)), 0, api.ErrNone},
		{0, api.Value{Kind: api.ValueRecord, Names: []string{}, Items: []api.Value{}}, 5, api.OK},
		{0, list(), 0, api.ErrNone},
		{0, number(3), 0, api.ErrNone},
		{0, api.Value{Kind: api.ValueKinds}, 0, api.ErrKind},
		{2, number(1), 0, api.ErrRange},
		{-1, number(1), 0, api.ErrRange},
		{2, api.Value{Kind: api.ValueKinds}, 0, api.ErrRange},
	} {
		i, e := objects.RowFor(rows, x.field, x.v)
		wantResult(t, fmt.Sprint("RowFor ", x.field, " ", x.v), i, e, x.want, x.e)
	}
	i, e := objects.RowFor(nil, 3, number(1))
	wantResult(t, "RowFor of no rows", i, e, 0, api.ErrNone)
	i, e = objects.RowFor(nil, 3, api.Value{Kind: -1})
	wantResult(t, "RowFor of no rows, and a wrong value", i, e, 0, api.ErrKind)
}

// P7.3: the errors of RowFor, in their order: first of all rows, then of the value, then of the values in the rows.
func TestRowForFaults(t *testing.T) {
	wrong, misshapen := api.Value{Kind: api.ValueKinds}, api.Value{Kind: api.ValueUnion}
	row := func(l ...[]api.Value) api.ObjectRow { return api.ObjectRow{Values: l} }
	right := row([]api.Value{number(1)})
	two := row([]api.Value{number(1), wrong})
	for i, x := range []struct {
		rows []api.ObjectRow
		v    api.Value
		want api.Errno
	}{
		{[]api.ObjectRow{right, row()}, wrong, api.ErrRange},
		{[]api.ObjectRow{right, two, row()}, wrong, api.ErrShape},
		{[]api.ObjectRow{right, row(), two}, wrong, api.ErrRange},
		{[]api.ObjectRow{row([]api.Value{misshapen}), two}, wrong, api.ErrShape},
		{[]api.ObjectRow{row([]api.Value{misshapen})}, wrong, api.ErrKind},
		{[]api.ObjectRow{right, row([]api.Value{misshapen}), row([]api.Value{wrong})}, number(1), api.ErrShape},
		{[]api.ObjectRow{right, row([]api.Value{wrong}), row([]api.Value{misshapen})}, number(1), api.ErrKind},
		{[]api.ObjectRow{right, row([]api.Value{number(2)}, []api.Value{wrong, wrong})}, number(1), api.OK},
		{make([]api.ObjectRow, api.MaxItems+1), wrong, api.ErrLarge},
		{make([]api.ObjectRow, api.MaxItems), wrong, api.ErrRange},
	} {
		got, e := objects.RowFor(x.rows, 0, x.v)
		wantResult(t, fmt.Sprint("rows ", i), got, e, 0, x.want)
	}
	var most []api.ObjectRow
	for n := range api.MaxItems {
		most = append(most, row([]api.Value{number(n)}))
	}
	i, e := objects.RowFor(most, 0, number(api.MaxItems-1))
	wantResult(t, "the last one of most rows", i, e, api.MaxItems-1, api.OK)
}

// P7.3: the type that stands in an open component.
func TestTypeFor(t *testing.T) {
	const types = "A ::= SEQUENCE {i C.&id ({S}), v C.&Type ({S}{@i}), w C.&Other ({S}{@i}), n C.&name ({R}), u C.&Type ({R}{@n}), x C.&Type ({S}), y C.&Type ({S}{@x})}"
	l := programOf(t, "N EXPLICIT ", "M EXPLICIT "+types+someObjects)
	wrong := api.Value{Kind: api.ValueKinds}
	for _, x := range []struct {
		module, table int
		id            api.Value
		want          string
		e             api.Errno
	}{
		{1, 0, number(1), "Type-x", api.OK},
		{1, 0, number(2), "Type-y", api.OK},
		{1, 0, number(3), "", api.ErrNone},
		{1, 0, chars("y"), "", api.ErrNone},
		{1, 0, wrong, "", api.ErrKind},
		{1, 1, number(2), "Other-y", api.OK},
		{1, 1, number(1), "", api.ErrUnbound},
		{1, 2, chars("y"), "Type-z", api.OK}, // the first one of two
		{1, 2, chars("x"), "", api.ErrNone},
		{1, 3, number(1), "", api.ErrState},
		{1, 3, wrong, "", api.ErrState},
		{1, 4, number(1), "", api.ErrNone}, // the other component has no values, but types
		{1, 5, number(1), "", api.ErrMissing},
		{1, -1, wrong, "", api.ErrMissing},
		{0, 0, number(1), "", api.ErrMissing},
		{2, 0, number(1), "", api.ErrRange},
		{-1, -1, wrong, "", api.ErrRange},
	} {
		name, e := objects.TypeFor(l, x.module, x.table, x.id)
		wantResult(t, fmt.Sprint("TypeFor ", x.module, " ", x.table, " ", x.id), name, e, x.want, x.e)
	}
	name, e := objects.TypeFor(programOf(t, "M EXPLICIT A ::= P{NULL}"), 7, 7, wrong)
	wantResult(t, "TypeFor of what is wrong", name, e, "", api.ErrMissing)
	// the first row decides, also if it has no type
	l = programOf(t, "M EXPLICIT C ::= CLASS {&id INTEGER, &Type OPTIONAL} x C ::= {&id 1} y C ::= {&id 1, &Type NULL} S C ::= {x | y} R C ::= {y | x}"+
		" A ::= SEQUENCE {i C.&id ({S}), v C.&Type ({S}{@i}), w C.&Type ({R}{@i})}")
	name, e = objects.TypeFor(l, 0, 0, number(1))
	wantResult(t, "the first row has no type", name, e, "", api.ErrUnbound)
	name, e = objects.TypeFor(l, 0, 1, number(1))
	wantResult(t, "the second row has no type", name, e, "Type-y", api.OK)
}
