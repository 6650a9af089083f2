package modules_test

import (
	"fmt"
	"strings"
	"testing"

	"examiner/api"
	"examiner/modules"
)

// wantRight checks what CheckRight returns.
func wantRight(t *testing.T, what string, s api.Schema, want int, wantE api.Errno) {
	t.Helper()
	i, e := modules.CheckRight(s)
	wantResult(t, what, i, e, want, wantE)
}

// P6.3: schemas that are right.
func TestRightSchemas(t *testing.T) {
	wantRight(t, "no types", nil, 0, api.OK)
	for _, lines := range [][]string{
		{"A ::= NULL"},
		{"A ::= SEQUENCE {a A OPTIONAL}"},
		{"A ::= SEQUENCE OF A", "B ::= [1] EXPLICIT CHOICE {a A, b [1] IMPLICIT B}"},
		{"L ::= CHOICE {n NULL, c SEQUENCE {h INTEGER, t L}}"},
		{"A ::= SEQUENCE {a INTEGER (0..9) DEFAULT 5, b SEQUENCE OF B DEFAULT {{x 5}, {x 6, y 7}}}", "B ::= SEQUENCE {x INTEGER, y INTEGER OPTIONAL}"},
		{"A ::= SEQUENCE {a INTEGER (5 EXCEPT 5, ..., 7), b ANY, c OCTET STRING (SIZE (0)) OPTIONAL}"},
	} {
		wantRight(t, strings.Join(lines, "; "), schemaOf(t, lines...), len(lines), api.OK)
	}
	var most []string
	for i := range api.MaxTypes {
		most = append(most, fmt.Sprintf("T%02d ::= T%02d", i, i+1))
	}
	most[api.MaxTypes-1] = "T23 ::= [1] EXPLICIT [2] IMPLICIT NULL"
	wantRight(t, "a chain of 24 types", schemaOf(t, most...), api.MaxTypes, api.OK)
}

// P6.3: each error of CheckRight, with the index of the type.
func TestFaultsOfSchemas(t *testing.T) {
	const deep = "G ::= SEQUENCE {h H}; H ::= SEQUENCE {i I}; I ::= SEQUENCE {j J}; J ::= SEQUENCE {k K}; K ::= SEQUENCE {l L}; L ::= SEQUENCE {m M}; M ::= SEQUENCE {n NULL}"
	const tags = "Y ::= [4] EXPLICIT [5] EXPLICIT [6] EXPLICIT Z; Z ::= [7] EXPLICIT NULL"
	const normal = "R ::= SEQUENCE {r INTEGER DEFAULT 7, q NULL OPTIONAL}"
	for _, x := range []struct {
		lines string
		index int
		want  api.Errno
	}{
		// values.CheckSchema
		{"A ::= NULL; B ::= SET OF C", 1, api.ErrMissing},
		{"A ::= B; B ::= INTEGER (2..1)", 1, api.ErrRange},
		{"A ::= NULL; B ::= A (1)", 1, api.ErrKind},
		// not settled
		{"A ::= NULL; B ::= B", 0, api.ErrLoop},
		{"A ::= NULL; B ::= CHOICE {a C, b NULL}; C ::= B", 0, api.ErrLoop},
		{"A ::= NULL; B ::= [1] NULL", 0, api.ErrState},
		{"A ::= NULL; B ::= SET OF [1] IMPLICIT ANY", 0, api.ErrState},
		{"A ::= NULL; B ::= [1] IMPLICIT C; C ::= CHOICE {a NULL}", 0, api.ErrState},
		// references that cannot be followed
		{"A ::= NULL; B ::= [1] EXPLICIT [2] EXPLICIT Y; " + tags, 4, api.OK},
		{"A ::= NULL; B ::= [1] EXPLICIT [2] EXPLICIT [3] EXPLICIT Y; " + tags, 1, api.ErrLarge},
		{"A ::= NULL; B ::= SET OF [1] EXPLICIT [2] EXPLICIT [3] EXPLICIT Y; " + tags, 1, api.ErrLarge},
		{"A ::= NULL; B ::= CHOICE {a NULL, b SEQUENCE {c NULL, d [1] EXPLICIT C}}; C ::= [2] EXPLICIT [3] EXPLICIT Y; " + tags, 1, api.ErrLarge},
		{"A ::= NULL; B ::= SEQUENCE {a A, b [1] EXPLICIT [2] EXPLICIT [3] EXPLICIT Y}; " + tags, 1, api.ErrLarge},
		{"A ::= NULL; B ::= [1] EXPLICIT C; C ::= [2] EXPLICIT [3] EXPLICIT Y; " + tags, 1, api.ErrLarge},
		// constraints that permit nothing
		{"A ::= NULL; B ::= INTEGER (5 EXCEPT 5)", 1, api.ErrNone},
		{"A ::= NULL; B ::= SEQUENCE {a CHOICE {b NULL, c SET OF INTEGER (5 ^ 6)} OPTIONAL}", 1, api.ErrNone},
		{"A ::= NULL; B ::= SEQUENCE (SIZE (1 EXCEPT 0..5)) OF NULL", 1, api.ErrNone},
		{"A ::= NULL; B ::= BIT STRING ('01'B ^ SIZE (1))", 1, api.ErrNone},
		{"A ::= NULL; B ::= NumericString (\"1\" EXCEPT FROM (\"1\"..\"2\"))", 1, api.ErrNone},
		{"A ::= NULL; B ::= OCTET STRING (SIZE (1 EXCEPT 1), ..., SIZE (1))", 2, api.OK},
		// heights
		{"A ::= NULL; B ::= SEQUENCE {a B}", 1, api.ErrLoop},
		{"A ::= NULL; B ::= SET {a C}; C ::= SEQUENCE (SIZE (1..5)) OF B", 1, api.ErrLoop},
		{"A ::= SET OF C; B ::= C; C ::= SEQUENCE {a CHOICE {b B}}", 1, api.ErrLoop},
		{deep, 7, api.OK},
		{"F ::= G; " + deep, 8, api.OK},
		{"F ::= SEQUENCE {g G OPTIONAL, ..., g2 [1] EXPLICIT G}; " + deep, 8, api.OK},
		{"E ::= NULL; F ::= SEQUENCE {g G}; " + deep, 1, api.ErrLoop},
		// clashes
		{"A ::= NULL; B ::= SET OF SEQUENCE {a INTEGER OPTIONAL, b INTEGER}", 1, api.ErrTag},
		{"A ::= NULL; B ::= CHOICE {a NULL, b A}", 1, api.ErrTag},
		// defaults
		{"A ::= NULL; B ::= SET OF SET {a INTEGER DEFAULT TRUE}", 1, api.ErrType},
		{"A ::= SEQUENCE {a NULL, b INTEGER (0..5) DEFAULT 6}; B ::= SET {a INTEGER DEFAULT TRUE}", 0, api.ErrBound},
		{"A ::= SEQUENCE {a SEQUENCE {b INTEGER DEFAULT TRUE}, b INTEGER (0..5) DEFAULT 6}", 0, api.ErrBound},
		{"A ::= SEQUENCE {a SET OF NULL DEFAULT {}}", 0, api.ErrType},
		{"A ::= SEQUENCE {a R DEFAULT {q NULL}}; " + normal, 0, api.ErrCanonical},
		{"A ::= SEQUENCE {a R DEFAULT {q NULL, r 5}}; " + normal, 0, api.ErrCanonical},
		{"A ::= SEQUENCE {a R DEFAULT {r 7, q NULL}}; " + normal, 2, api.OK},
		{"A ::= SEQUENCE {a R DEFAULT {r 5}}; B ::= CHOICE {n NULL, s SEQUENCE OF SEQUENCE {a R DEFAULT {q NULL}}}; " + normal, 1, api.ErrCanonical},
		{"A ::= SEQUENCE {a A DEFAULT {a2 5}, a2 [1] EXPLICIT INTEGER}", 0, api.ErrCanonical},
	} {
		wantRight(t, x.lines, schemaOf(t, strings.Split(x.lines, "; ")...), x.index, x.want)
	}
}

// P6.3: of two errors the one that is listed first, in whatever type it is.
func TestOrderOfSchemaFaults(t *testing.T) {
	faults := []struct {
		text  string // # is the name of the type itself
		isAt0 bool
		want  api.Errno
	}{
		{"SET OF X", false, api.ErrMissing},
		{"CHOICE {a #}", true, api.ErrLoop},
		{"[1] NULL", true, api.ErrState},
		{"[1] EXPLICIT [2] EXPLICIT [3] EXPLICIT Y", false, api.ErrLarge},
		{"INTEGER (5 EXCEPT 5)", false, api.ErrNone},
		{"SEQUENCE {a #}", false, api.ErrLoop},
		{"SET {a NULL, b NULL}", false, api.ErrTag},
		{"SEQUENCE {a INTEGER DEFAULT TRUE}", false, api.ErrType},
		{"SEQUENCE {a R DEFAULT {q NULL}}", false, api.ErrCanonical},
	}
	for i, first := range faults {
		for j, second := range faults {
			s := schemaOf(t, "A ::= NULL", "B ::= "+strings.ReplaceAll(first.text, "#", "B"), "C ::= "+strings.ReplaceAll(second.text, "#", "C"),
				"R ::= SEQUENCE {r INTEGER DEFAULT 7, q NULL OPTIONAL}", "Y ::= [4] EXPLICIT [5] EXPLICIT [6] EXPLICIT Z", "Z ::= [7] EXPLICIT NULL")
			want, index := first, 1
			if j < i {
				want, index = second, 2
			}
			if want.isAt0 {
				index = 0
			}
			wantRight(t, first.text+"; "+second.text, s, index, want.want)
		}
	}
}
