package objects_test

import (
	"fmt"
	"testing"

	"examiner/api"
	"examiner/objects"
)

// wantAgrees checks what Agrees returns for a value of the type A of a module.
func wantAgrees(t *testing.T, text string, v api.Value, want []int, wantE api.Errno) {
	t.Helper()
	place, e := objects.Agrees(programOf(t, "M EXPLICIT "+text+someObjects), 0, "A", v)
	wantResult(t, fmt.Sprintf("%s: %v", text, v), place, e, want, wantE)
}

// P7.4: values that agree with their tables.
func TestAgrees(t *testing.T) {
	const pair = "A ::= SEQUENCE {i C.&id ({S}), v C.&Type ({S}{@i}) OPTIONAL}"
	for _, x := range []struct{ text, value string }{
		{pair, "{i 1, v Type-x: NULL}"},
		{pair, "{v Type-y: 5, i 2}"},
		{pair, "{i 3}"},
		{pair, "{}"},
		{pair, "{v 5}"}, // no open value, though it should be one
		{pair, "5"},
		{pair, "v: Type-z: NULL"},
		// without the other component, or one that is no field of the class, all agrees
		{"A ::= SEQUENCE {i C.&id ({S}), v C.&Type ({S})}", "{i 1, v Nothing: NULL}"},
		{"A ::= SEQUENCE {i INTEGER, v C.&Type ({S}{@i})}", "{i 1, v Nothing: NULL}"},
		{"A ::= SEQUENCE {v C.&Type ({S}{@i})}", "{v Nothing: NULL}"},
		// any row will do: z, not y, which has the same name and comes first
		{"A ::= SEQUENCE {n C.&name ({R}), v C.&Type ({R}{@n})}", "{n \"y\", v Type-y: NULL}"},
		{"A ::= SEQUENCE {n C.&name ({R}), v C.&Type ({R}{@n})}", "{n \"y\", v Type-z: NULL}"},
		// not in a record of the type
		{"A ::= NULL B ::= SEQUENCE {i C.&id ({S}), v C.&Type ({S}{@i})}", "{i 1, v Type-y: NULL}"},
		{"A ::= B B ::= SEQUENCE {i C.&id ({S}), v C.&Type ({S}{@i})}", "{i 1, v Type-y: NULL}"},
		{"A ::= SEQUENCE {i C.&id ({S}), b B, v ANY} B ::= SEQUENCE {i C.&id ({S}), v C.&Type ({S}{@i})}", "{i 1, b {i 1, v Type-y: NULL}, v Type-y: NULL}"},
		{"A ::= CHOICE {i C.&id ({S}), v C.&Type ({S}{@i})}", "v: Type-y: NULL"},
		// another alternative, other components, and what does not fit
		{"A ::= CHOICE {a SEQUENCE {i C.&id ({S}), v C.&Type ({S}{@i})}, b ANY}", "b: {i 1, v Type-y: NULL}"},
		{"A ::= CHOICE {a SEQUENCE {i C.&id ({S}), v C.&Type ({S}{@i})}, b ANY}", "{a {i 1, v Type-y: NULL}}"},
		{"A ::= SEQUENCE {a SEQUENCE {i C.&id ({S}), v C.&Type ({S}{@i})}}", "a: {i 1, v Type-y: NULL}"},
		{"A ::= SEQUENCE {a SEQUENCE {i C.&id ({S}), v C.&Type ({S}{@i})}}", "{b {i 1, v Type-y: NULL}}"},
		{"A ::= SEQUENCE {a SEQUENCE {i C.&id ({S}), v C.&Type ({S}{@i})}}", "{{i 1, v Type-y: NULL}}"},
		{"A ::= SEQUENCE OF SEQUENCE {i C.&id ({S}), v C.&Type ({S}{@i})}", "{a {i 1, v Type-y: NULL}}"},
		{"A ::= SEQUENCE OF SEQUENCE {i C.&id ({S}), v C.&Type ({S}{@i})}", "A: {i 1, v Type-y: NULL}"},
		{"A ::= P{SEQUENCE {i C.&id ({S}), v C.&Type ({S}{@i})}} P{X} ::= X", "{i 1, v Type-y: NULL}"},
		{"A ::= SEQUENCE OF SEQUENCE {i C.&id ({S}), v C.&Type ({S}{@i})}", "{{i 1, v Type-x: NULL}, {i 2, v Type-y: TRUE}, {i 3}}"},
	} {
		wantAgrees(t, x.text, plainOf(t, x.value), nil, api.OK)
	}
	// octets agree always
	wantAgrees(t, pair, record("i v", number(1), unnamed("\x05\x00")), nil, api.OK)
	wantAgrees(t, pair, record("i v", number(9), unnamed("")), nil, api.OK)
	wantAgrees(t, pair, record("v", unnamed("")), nil, api.OK)
}

// P7.4: values that do not agree, with the place.
func TestDisagrees(t *testing.T) {
	const pair = "A ::= SEQUENCE {i C.&id ({S}), v C.&Type ({S}{@i})}"
	const twice = "A ::= SEQUENCE {w C.&Other ({S}{@i}), a SEQUENCE OF SEQUENCE {i C.&id ({S}), v C.&Type ({S}{@i})}, v C.&Type ({R}{@i}), i C.&id ({S})}"
	for _, x := range []struct {
		text, value string
		want        []int
	}{
		{pair, "{i 2, v Type-x: NULL}", []int{1}},
		{pair, "{v Type-x: NULL, i 2}", []int{0}},
		{pair, "{i 3, v Type-z: NULL}", []int{1}}, // z is no object of the set
		{pair, "{i 1, v Type-y: NULL}", []int{1}},
		{pair, "{i 1, v Nothing: NULL}", []int{1}},
		{pair, "{i 1, v C: NULL}", []int{1}},
		{pair, "{i TRUE, v Type-x: NULL}", []int{1}},
		{pair, "{v Type-x: NULL}", []int{0}}, // without the other component
		{pair, "{j 1, v Type-x: NULL}", []int{1}},
		{"A ::= SET {i C.&id ({E}), v C.&Type ({E}{@i})}", "{i 1, v Type-x: NULL}", []int{1}},
		{"A ::= SET {i C.&id ({E}), v C.&Type ({O}{@i})}", "{i 1, v Type-x: NULL}", []int{1}}, // also if others may be added to the set
		{"A ::= SEQUENCE {i C.&id ({S}), w C.&Other ({S}{@i})}", "{i 2, w Type-y: NULL}", []int{1}},
		{"A ::= SEQUENCE {i C.&id ({S}), w C.&Other ({S}{@i})}", "{i 1, w Other-x: NULL}", []int{1}},
		{"A ::= SEQUENCE {i C.&Other ({S}), v C.&Type ({S}{@i})}", "{i Other-y: 1, v Type-y: 1}", []int{1}}, // the other component has no values, but types
		{"A ::= SEQUENCE {i C.&name ({S}), v C.&Type ({S}{@i})}", "{i \"y\", v Type-z: 1}", []int{1}},
		// ways
		{"A ::= SEQUENCE OF SEQUENCE {i C.&id ({S}), v C.&Type ({S}{@i})}", "{{i 1, v Type-x: NULL}, {}, {v Type-y: 1, i 1}, {i 2, v Type-x: NULL}}", []int{2, 0}},
		{"A ::= SET OF SET OF SET {i C.&id ({S}), v C.&Type ({S}{@i})}", "{{}, {{i 1, v Type-x: NULL}}, {{i 1, v Type-x: NULL}, {i 1, v Type-y: NULL}}}", []int{2, 1, 1}},
		{"A ::= CHOICE {n NULL, a SEQUENCE {b SEQUENCE {i C.&id ({S}), v C.&Type ({S}{@i})}}}", "a: {b {i 1, v Type-y: NULL}}", []int{0, 0, 1}},
		{"A ::= CHOICE {a SEQUENCE {v C.&Type ({S}{@v})}, ..., b SEQUENCE {i C.&id ({S}), v C.&Type ({S}{@i})}}", "b: {i 1, v Type-y: NULL}", []int{0, 1}},
		{"A ::= SEQUENCE {a SEQUENCE {i C.&id ({S}), v C.&Type ({S}{@i})}, b NULL}", "{z 1, b 5, a {i 1, v Type-y: NULL}}", []int{2, 1}},
		// tables of other types before it
		{"B ::= SEQUENCE {i C.&id ({S}), v C.&Type ({S}{@i})} A ::= SEQUENCE {b B, i C.&id ({S}), v C.&Type ({S}{@i})}", "{i 1, v Type-y: NULL}", []int{1}},
		// table by table, places ascending
		{twice, "{i 1, w Other-y: 1, v Type-y: 1, a {{i 1, v Type-x: 1}, {i 1, v Type-y: 1}}}", []int{1}},
		{twice, "{i 1, v Type-y: 1, a {{i 1, v Type-x: 1}, {i 1, v Type-y: 1}, {i 9, v Type-y: 1}}}", []int{2, 1, 1}},
		{twice, "{v Type-y: 1, i 2, a {{i 1, v Type-x: 1}, {i 1, v Type-y: 1}}}", []int{2, 1, 1}},
		{twice, "{v Type-y: 1, i 3, a {{i 1, v Type-x: 1}, {i 2, v Type-y: 1}}}", []int{0}},
		{twice, "{v Type-y: 1, i 1, a {}}", []int{0}},
		{twice, "{v Type-z: 1, i 3, w Other-y: 1}", []int{2}},
	} {
		wantAgrees(t, x.text, plainOf(t, x.value), x.want, api.ErrClash)
	}
	wantAgrees(t, "A ::= SET OF SEQUENCE {i C.&id ({S}), v C.&Type ({S}{@i})}",
		bag(record("i v", number(1), open("Type-x", number(1))), record("i v", number(1), open("Type-y", number(1)))), []int{1, 1}, api.ErrClash)
}

// P7.4: values in rows are compared as they are written.
func TestAgreesAsWritten(t *testing.T) {
	l := programOf(t, "M EXPLICIT C ::= CLASS {&id SET OF INTEGER, &Type} x C ::= {&id {3, 1}, &Type NULL} S C ::= {x} A ::= SEQUENCE {i C.&id ({S}), v C.&Type ({S}{@i})}")
	place, e := objects.Agrees(l, 0, "A", record("i v", list(number(3), number(1)), open("Type-x", api.Value{})))
	wantResult(t, "as it is written", place, e, []int{}, api.OK)
	place, e = objects.Agrees(l, 0, "A", record("i v", bag(number(1), number(3)), open("Type-x", api.Value{})))
	wantResult(t, "as a bag", place, e, []int{1}, api.ErrClash)
}

// P7.4: the errors of Agrees, in their order.
func TestAgreesFaults(t *testing.T) {
	wrong := api.Value{Kind: api.ValueKinds}
	l := programOf(t, "N EXPLICIT B ::= NULL", "M EXPLICIT A ::= SEQUENCE {i C.&id ({S}), v C.&Type ({S}{@i})} P{X} ::= X w A ::= {}"+someObjects)
	for _, x := range []struct {
		module int
		name   string
		v      api.Value
		want   api.Errno
	}{
		{2, "A", wrong, api.ErrRange},
		{-1, "Q", wrong, api.ErrRange},
		{1, "Q", wrong, api.ErrMissing},
		{0, "A", wrong, api.ErrMissing},
		{1, "", number(1), api.ErrMissing},
		{1, "P", number(1), api.ErrMissing},
		{1, "C", number(1), api.ErrMissing},
		{1, "w", number(1), api.ErrMissing},
		{1, "S", number(1), api.ErrMissing},
		{1, "Type-x", number(1), api.ErrMissing},
		{1, "A", wrong, api.ErrKind},
		{1, "A", record("i v", number(1), open("Type-y", wrong)), api.ErrKind},
		{0, "B", wrong, api.ErrKind},
		{0, "B", number(1), api.OK},
	} {
		at, e := objects.Agrees(l, x.module, x.name, x.v)
		wantResult(t, fmt.Sprint("Agrees ", x.module, " ", x.name, " ", x.v), at, e, []int{}, x.want)
	}
	at, e := objects.Agrees(l[:0], 0, "A", wrong)
	wantResult(t, "Agrees of nothing", at, e, []int{}, api.ErrEmpty)
	l[1].Items[0].Type.Fields[0].Type.Name = "no"
	at, e = objects.Agrees(l, 2, "Q", wrong)
	wantResult(t, "Agrees of what is wrong", at, e, []int{}, api.ErrMissing)
}
