package objects_test

import (
	"testing"

	"examiner/api"
	"examiner/objects"
)

// The chapter's examples.
func TestExamples(t *testing.T) {
	wantExpanded(t, "example 1", programOf(t, "M EXPLICIT P{X} ::= SEQUENCE OF X A ::= P{INTEGER} B ::= P{INTEGER}"),
		programOf(t, "M EXPLICIT A ::= P-1 B ::= P-1 P-1 ::= SEQUENCE OF INTEGER"), api.OK)
	l := programOf(t, "N EXPLICIT C ::= CLASS {&id INTEGER UNIQUE, &Type} x C ::= {&id 1, &Type NULL} S C ::= {x} M ::= SEQUENCE {i C.&id ({S}), v C.&Type ({S}{@i})}")
	wantExpanded(t, "example 2", l, programOf(t, "N EXPLICIT M ::= SEQUENCE {i INTEGER (1), v ANY} Type-x ::= NULL"), api.OK)
	tables, e := objects.TablesOf(l, 0)
	wantResult(t, "example 2", tables, e, []api.Table{{Type: "M", Id: "i", Open: "v", Set: "S", IdField: 0, Field: 1}}, api.OK)
	place, e := objects.Agrees(l, 0, "M", plainOf(t, "{i 1, v Type-x: NULL}"))
	wantResult(t, "example 3", place, e, []int{}, api.OK)
	place, e = objects.Agrees(l, 0, "M", plainOf(t, "{i 2, v Type-x: NULL}"))
	wantResult(t, "example 3", place, e, []int{1}, api.ErrClash)
}

// The chapter's edge cases.
func TestEdgeCases(t *testing.T) {
	wantExpanded(t, "one instance for each X", programOf(t, "M EXPLICIT T{X} ::= SEQUENCE {a X, b T{X} OPTIONAL} A ::= T{INTEGER} B ::= SET OF T{NULL}"),
		programOf(t, "M EXPLICIT A ::= T-1 B ::= SET OF T-2 T-1 ::= SEQUENCE {a INTEGER, b T-1 OPTIONAL} T-2 ::= SEQUENCE {a NULL, b T-2 OPTIONAL}"), api.OK)
	const endless = "M EXPLICIT T{X} ::= SEQUENCE {a T{SEQUENCE OF X} OPTIONAL, b T{SET OF X} OPTIONAL}"
	wantExpanded(t, "endless, and not used", programOf(t, endless), programOf(t, "M EXPLICIT "), api.OK)
	wantExpanded(t, "endless, and used", programOf(t, endless+" A ::= SET OF T{INTEGER}"), nil, api.ErrLoop)
	wantExpanded(t, "deeper and deeper", programOf(t, "M EXPLICIT T{X} ::= SEQUENCE {a T{SEQUENCE OF X} OPTIONAL} A ::= T{INTEGER}"), nil, api.ErrLarge)
	wantExpanded(t, "a set without objects", programOf(t, "M EXPLICIT C ::= CLASS {&id INTEGER (0..9)} S C ::= {...} A ::= C.&id ({S})"),
		programOf(t, "M EXPLICIT A ::= INTEGER"), api.OK)
	wantExpanded(t, "a parameter that is not used", programOf(t, "M EXPLICIT P{X, Y} ::= SET OF X A ::= P{NULL, REAL}"),
		programOf(t, "M EXPLICIT A ::= P-1 P-1 ::= SET OF NULL"), api.OK)
}
