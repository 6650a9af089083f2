package tags_test

import (
	"testing"

	"examiner/api"
	"examiner/tags"
)

// settleCases are schemas as they are written, and as they are settled by each way.
var settleCases = []struct{ written, explicit, implicit, automatic string }{
	{"T ::= INTEGER", "T ::= INTEGER", "T ::= INTEGER", "T ::= INTEGER"},
	{"T ::= [5] INTEGER", "T ::= [5] EXPLICIT INTEGER", "T ::= [5] IMPLICIT INTEGER", "T ::= [5] IMPLICIT INTEGER"},
	{"T ::= [PRIVATE 5] IMPLICIT INTEGER", "T ::= [PRIVATE 5] IMPLICIT INTEGER", "T ::= [PRIVATE 5] IMPLICIT INTEGER", "T ::= [PRIVATE 5] IMPLICIT INTEGER"},
	{"T ::= [APPLICATION 5] EXPLICIT INTEGER", "T ::= [APPLICATION 5] EXPLICIT INTEGER", "T ::= [APPLICATION 5] EXPLICIT INTEGER", "T ::= [APPLICATION 5] EXPLICIT INTEGER"},
	{"T ::= [1] [2] IMPLICIT [3] INTEGER", "T ::= [1] EXPLICIT [2] IMPLICIT [3] EXPLICIT INTEGER", "T ::= [1] IMPLICIT [2] IMPLICIT [3] IMPLICIT INTEGER", "T ::= [1] IMPLICIT [2] IMPLICIT [3] IMPLICIT INTEGER"},

	// what an implicit tag cannot stand before
	{"T ::= [1] ANY", "T ::= [1] EXPLICIT ANY", "T ::= [1] EXPLICIT ANY", "T ::= [1] EXPLICIT ANY"},
	{"T ::= [1] IMPLICIT ANY", "T ::= [1] EXPLICIT ANY", "T ::= [1] EXPLICIT ANY", "T ::= [1] EXPLICIT ANY"},
	{"T ::= [1] CHOICE {a [9] NULL}", "T ::= [1] EXPLICIT CHOICE {a [9] EXPLICIT NULL}", "T ::= [1] EXPLICIT CHOICE {a [9] IMPLICIT NULL}", "T ::= [1] EXPLICIT CHOICE {a [9] IMPLICIT NULL}"},
	{"T ::= [1] IMPLICIT CHOICE {a [9] NULL}", "T ::= [1] EXPLICIT CHOICE {a [9] EXPLICIT NULL}", "T ::= [1] EXPLICIT CHOICE {a [9] IMPLICIT NULL}", "T ::= [1] EXPLICIT CHOICE {a [9] IMPLICIT NULL}"},
	{"T ::= [1] IMPLICIT [2] IMPLICIT [3] IMPLICIT ANY", "T ::= [1] IMPLICIT [2] IMPLICIT [3] EXPLICIT ANY", "T ::= [1] IMPLICIT [2] IMPLICIT [3] EXPLICIT ANY", "T ::= [1] IMPLICIT [2] IMPLICIT [3] EXPLICIT ANY"},
	{"T ::= [1] [2] ANY", "T ::= [1] EXPLICIT [2] EXPLICIT ANY", "T ::= [1] IMPLICIT [2] EXPLICIT ANY", "T ::= [1] IMPLICIT [2] EXPLICIT ANY"},
	{"T ::= [1] U U ::= ANY", "T ::= [1] EXPLICIT U U ::= ANY", "T ::= [1] EXPLICIT U U ::= ANY", "T ::= [1] EXPLICIT U U ::= ANY"},
	{"T ::= [1] IMPLICIT U U ::= V V ::= CHOICE {a [9] EXPLICIT NULL}", "T ::= [1] EXPLICIT U U ::= V V ::= CHOICE {a [9] EXPLICIT NULL}", "T ::= [1] EXPLICIT U U ::= V V ::= CHOICE {a [9] EXPLICIT NULL}", "T ::= [1] EXPLICIT U U ::= V V ::= CHOICE {a [9] EXPLICIT NULL}"},
	{"T ::= [1] [2] U U ::= V V ::= ANY", "T ::= [1] EXPLICIT [2] EXPLICIT U U ::= V V ::= ANY", "T ::= [1] IMPLICIT [2] EXPLICIT U U ::= V V ::= ANY", "T ::= [1] IMPLICIT [2] EXPLICIT U U ::= V V ::= ANY"},

	// references to unions and open types with tags, and to other types
	{"T ::= [1] U U ::= [2] ANY", "T ::= [1] EXPLICIT U U ::= [2] EXPLICIT ANY", "T ::= [1] IMPLICIT U U ::= [2] EXPLICIT ANY", "T ::= [1] IMPLICIT U U ::= [2] EXPLICIT ANY"},
	{"T ::= [1] IMPLICIT U U ::= V V ::= [2] W W ::= ANY", "T ::= [1] IMPLICIT U U ::= V V ::= [2] EXPLICIT W W ::= ANY", "T ::= [1] IMPLICIT U U ::= V V ::= [2] EXPLICIT W W ::= ANY", "T ::= [1] IMPLICIT U U ::= V V ::= [2] EXPLICIT W W ::= ANY"},
	{"T ::= [1] U U ::= [2] V V ::= CHOICE {a [9] EXPLICIT NULL}", "T ::= [1] EXPLICIT U U ::= [2] EXPLICIT V V ::= CHOICE {a [9] EXPLICIT NULL}", "T ::= [1] IMPLICIT U U ::= [2] EXPLICIT V V ::= CHOICE {a [9] EXPLICIT NULL}", "T ::= [1] IMPLICIT U U ::= [2] EXPLICIT V V ::= CHOICE {a [9] EXPLICIT NULL}"},
	{"T ::= [1] U U ::= SET OF ANY", "T ::= [1] EXPLICIT U U ::= SET OF ANY", "T ::= [1] IMPLICIT U U ::= SET OF ANY", "T ::= [1] IMPLICIT U U ::= SET OF ANY"},
	{"T ::= [1] U (1..2) U ::= INTEGER (1)", "T ::= [1] EXPLICIT U (1..2) U ::= INTEGER (1)", "T ::= [1] IMPLICIT U (1..2) U ::= INTEGER (1)", "T ::= [1] IMPLICIT U (1..2) U ::= INTEGER (1)"},

	// types within types
	{"T ::= SEQUENCE {a [1] NULL, b SET OF [2] CHOICE {c [3] ANY}, ..., [[d [4] T DEFAULT {e 5}]]}",
		"T ::= SEQUENCE {a [1] EXPLICIT NULL, b SET OF [2] EXPLICIT CHOICE {c [3] EXPLICIT ANY}, ..., [[d [4] EXPLICIT T DEFAULT {e 5}]]}",
		"T ::= SEQUENCE {a [1] IMPLICIT NULL, b SET OF [2] EXPLICIT CHOICE {c [3] EXPLICIT ANY}, ..., [[d [4] IMPLICIT T DEFAULT {e 5}]]}",
		"T ::= SEQUENCE {a [1] IMPLICIT NULL, b SET OF [2] EXPLICIT CHOICE {c [3] EXPLICIT ANY}, ..., [[d [4] IMPLICIT T DEFAULT {e 5}]]}"},

	// automatic tags
	{"T ::= SEQUENCE {a INTEGER, ..., b NULL}", "T ::= SEQUENCE {a INTEGER, ..., b NULL}", "T ::= SEQUENCE {a INTEGER, ..., b NULL}", "T ::= SEQUENCE {a [0] IMPLICIT INTEGER, ..., b [1] IMPLICIT NULL}"},
	{"T ::= CHOICE {a ANY, b U, c CHOICE {d NULL}, e V} U ::= ANY V ::= [9] ANY", "T ::= CHOICE {a ANY, b U, c CHOICE {d NULL}, e V} U ::= ANY V ::= [9] EXPLICIT ANY", "T ::= CHOICE {a ANY, b U, c CHOICE {d NULL}, e V} U ::= ANY V ::= [9] EXPLICIT ANY",
		"T ::= CHOICE {a [0] EXPLICIT ANY, b [1] EXPLICIT U, c [2] EXPLICIT CHOICE {d [0] IMPLICIT NULL}, e [3] IMPLICIT V} U ::= ANY V ::= [9] EXPLICIT ANY"},
	{"T ::= SET OF SET {a NULL, b [7] IMPLICIT SET {c NULL, d NULL}}", "T ::= SET OF SET {a NULL, b [7] IMPLICIT SET {c NULL, d NULL}}", "T ::= SET OF SET {a NULL, b [7] IMPLICIT SET {c NULL, d NULL}}", "T ::= SET OF SET {a NULL, b [7] IMPLICIT SET {c [0] IMPLICIT NULL, d [1] IMPLICIT NULL}}"},
	{"T ::= [7] SEQUENCE {}", "T ::= [7] EXPLICIT SEQUENCE {}", "T ::= [7] IMPLICIT SEQUENCE {}", "T ::= [7] IMPLICIT SEQUENCE {}"},
	{"T ::= ENUMERATED {a (5), b (7)}", "T ::= ENUMERATED {a (5), b (7)}", "T ::= ENUMERATED {a (5), b (7)}", "T ::= ENUMERATED {a (5), b (7)}"},
}

// P3.2: settling by all ways, and whether all is settled before and behind it.
func TestSettled(t *testing.T) {
	for _, x := range settleCases {
		s := schemaOf(t, x.written)
		wanted := []string{api.WayExplicit: x.explicit, api.WayImplicit: x.implicit, api.WayAutomatic: x.automatic}
		for way, want := range wanted {
			l, e := tags.Settled(s, way)
			wantResult(t, x.written, l, e, schemaOf(t, want), api.OK)
			is, e := tags.IsSettled(l)
			wantResult(t, want, is, e, true, api.OK)
		}
		is, e := tags.IsSettled(s)
		wantResult(t, x.written, is, e, x.written == x.explicit, api.OK)
	}
}

// P3.2: ways that are none, behind the error of the schema (TestSchemaFaults).
func TestSettledWays(t *testing.T) {
	for _, way := range []int{api.None, api.Ways, api.MaxInteger} {
		for _, s := range []api.Schema{nil, schemaOf(t, "T ::= NULL")} {
			l, e := tags.Settled(s, way)
			wantResult(t, "Settled by no way", l, e, api.Schema{}, api.ErrKind)
		}
	}
	l, e := tags.Settled(nil, api.WayAutomatic)
	wantResult(t, "Settled of nothing", l, e, api.Schema{}, api.OK)
}

// P3.2: what is not settled, tag by tag.
func TestIsSettled(t *testing.T) {
	for items, want := range map[string]bool{
		"":                                                       true,
		"T ::= SET OF CHOICE {a ANY}":                            true,
		"T ::= [1] NULL":                                         false,
		"T ::= [1] [2] EXPLICIT NULL":                            false,
		"T ::= [1] EXPLICIT [2] NULL":                            false,
		"T ::= [1] IMPLICIT [2] EXPLICIT ANY":                    true,
		"T ::= [1] EXPLICIT [2] IMPLICIT ANY":                    false,
		"T ::= SEQUENCE {a NULL, b [1] NULL}":                    false,
		"T ::= SEQUENCE {a NULL, ..., b [1] NULL}":               false,
		"T ::= SET OF SET OF [1] IMPLICIT CHOICE {a NULL}":       false,
		"T ::= SET OF SET OF [1] EXPLICIT CHOICE {a NULL}":       true,
		"S ::= [1] IMPLICIT T T ::= U U ::= CHOICE {a NULL}":     false,
		"S ::= [1] IMPLICIT T T ::= [2] EXPLICIT U U ::= ANY":    true,
		"S ::= SET OF NULL T ::= NULL U ::= SET {a [1] NULL}":    false,
		"S ::= [1] IMPLICIT T T ::= SEQUENCE {a CHOICE {b ANY}}": true,
	} {
		is, e := tags.IsSettled(schemaOf(t, items))
		wantResult(t, items, is, e, want, api.OK)
	}
}

// P3.2: automatic tags, which are plain, in all types within a type, and no settling.
func TestAutomatic(t *testing.T) {
	for text, want := range map[string]string{
		"INTEGER (1..5)":                                "INTEGER (1..5)",
		"SEQUENCE {}":                                   "SEQUENCE {}",
		"SEQUENCE {a INTEGER, ..., b NULL}":             "SEQUENCE {a [0] INTEGER, ..., b [1] NULL}",
		"SET {a T, ..., [[b NULL, c NULL]]}":            "SET {a [0] T, ..., [[b [1] NULL, c [2] NULL]]}",
		"CHOICE {a ANY, b CHOICE {c T}}":                "CHOICE {a [0] ANY, b [1] CHOICE {c [0] T}}",
		"[3] SEQUENCE {a NULL OPTIONAL}":                "[3] SEQUENCE {a [0] NULL OPTIONAL}",
		"SEQUENCE {a [4] NULL, b NULL}":                 "SEQUENCE {a [4] NULL, b NULL}",
		"SET {a NULL, b [4] IMPLICIT NULL}":             "SET {a NULL, b [4] IMPLICIT NULL}",
		"CHOICE {a NULL, ..., b [4] NULL}":              "CHOICE {a NULL, ..., b [4] NULL}",
		"SET OF SEQUENCE OF CHOICE {a NULL}":            "SET OF SEQUENCE OF CHOICE {a [0] NULL}",
		"SEQUENCE {a [1] IMPLICIT ANY, b SET {c NULL}}": "SEQUENCE {a [1] IMPLICIT ANY, b SET {c [0] NULL}}",
		"SEQUENCE {a SET {c [1] NULL, d NULL}}":         "SEQUENCE {a [0] SET {c [1] NULL, d NULL}}",
		"[1] T {SET {a NULL}, [2] U {CHOICE {b NULL}}}": "[1] T {SET {a [0] NULL}, [2] U {CHOICE {b [0] NULL}}}",
		"T (1..2)":                  "T (1..2)",
		"ENUMERATED {a (1), b (2)}": "ENUMERATED {a (1), b (2)}",
		"C.&T ({S} {@a})":           "C.&T ({S} {@a})",
		"SEQUENCE {components T}":   "SEQUENCE {components [0] T}",
		"SET {a INTEGER DEFAULT 5}": "SET {a [0] INTEGER DEFAULT 5}",
		"SET OF [1] IMPLICIT CHOICE {a [2] [3] EXPLICIT NULL}": "SET OF [1] IMPLICIT CHOICE {a [2] [3] EXPLICIT NULL}",
	} {
		y, e := tags.Automatic(typeOf(t, text))
		wantResult(t, text, y, e, typeOf(t, want), api.OK)
	}
	y, e := tags.Automatic(fields(api.TypeSet, make([]api.Type, api.MaxFields)...))
	if last := y.Fields[api.MaxFields-1].Type.Tags; e != api.OK || !alike(last, []api.Tag{context(api.MaxFields-1, api.TagPlain)}) {
		t.Errorf("the last one of 16 fields has the tags %v, error %d", last, e)
	}
}

// P3.2: Automatic has the error of the type.
func TestAutomaticFaults(t *testing.T) {
	for _, x := range []struct {
		y    api.Type
		want api.Errno
	}{
		{kind(-1), api.ErrKind}, {kind(api.TypeUnion), api.ErrShape}, {fields(api.TypeSet, kind(api.TypeKinds)), api.ErrKind}, {tagged(kind(api.TypeNull), api.Tag{}), api.ErrRange},
		{fields(api.TypeRecord, make([]api.Type, api.MaxFields+1)...), api.ErrLarge}, {wide(api.MaxTypeNodes + 1), api.ErrLarge}, {deep(api.MaxDepth + 2), api.ErrLarge},
		{ref("X"), api.OK}, {typeOf(t, "T {X}"), api.OK}, {wide(api.MaxTypeNodes), api.OK}, {deep(api.MaxDepth + 1), api.OK},
	} {
		y, e := tags.Automatic(x.y)
		wantFault(t, "Automatic", outcome{[]any{y}, e}, x.want)
	}
}
