package modules_test

import (
	"fmt"
	"strings"
	"testing"

	"examiner/api"
	"examiner/modules"
)

// P6.4: which types a type uses, and whether it reaches itself.
func TestUses(t *testing.T) {
	for _, x := range []struct {
		lines string
		want  []api.TypeUses
	}{
		{"A ::= NULL", []api.TypeUses{{}}},
		{"A ::= A", []api.TypeUses{{Names: []string{"A"}, Circle: true}}},
		{"A ::= B; B ::= NULL", []api.TypeUses{{Names: []string{"B"}}, {}}},
		{"A ::= SEQUENCE {a C, b SET OF B, c CHOICE {d C, e [1] D}}; B ::= C; C ::= NULL; D ::= REAL", []api.TypeUses{{Names: []string{"B", "C", "D"}}, {Names: []string{"C"}}, {}, {}}},
		{"A ::= SET OF B; B ::= CHOICE {a C, ..., b D}; C ::= SET {a D OPTIONAL}; D ::= C; E ::= E; F ::= SEQUENCE {a A, e E}",
			[]api.TypeUses{{Names: []string{"B"}}, {Names: []string{"C", "D"}}, {Names: []string{"D"}, Circle: true}, {Names: []string{"C"}, Circle: true}, {Names: []string{"E"}, Circle: true}, {Names: []string{"A", "E"}}}},
		{"A ::= B; B ::= C; C ::= A; D ::= A", []api.TypeUses{{Names: []string{"B"}, Circle: true}, {Names: []string{"C"}, Circle: true}, {Names: []string{"A"}, Circle: true}, {Names: []string{"A"}}}},
	} {
		uses, e := modules.UsesOf(schemaOf(t, strings.Split(x.lines, "; ")...))
		wantResult(t, x.lines, uses, e, x.want, api.OK)
	}
	uses, e := modules.UsesOf(nil)
	wantResult(t, "no types", uses, e, []api.TypeUses{}, api.OK)
}

// P6.4: types unfolded once.
func TestUnfolded(t *testing.T) {
	s := schemaOf(t, "A ::= [1] INTEGER (0..9)", "B ::= SEQUENCE {a A, b B OPTIONAL}", "C ::= C", "D ::= [2] [3] A", "E ::= SEQUENCE {a INTEGER DEFAULT 5, ..., [[b D]]}")
	for text, want := range map[string]string{
		"NULL":           "NULL",
		"A":              "[1] INTEGER (0..9)",
		"[5] IMPLICIT A": "[5] IMPLICIT [1] INTEGER (0..9)",
		"B":              "SEQUENCE {a A, b B OPTIONAL}",
		"C":              "C",
		"[1] C":          "[1] C",
		"D":              "[2] [3] A",
		"[1] D":          "[1] [2] [3] A",
		"SET OF A":       "SET OF [1] INTEGER (0..9)",
		"SET (SIZE (3)) OF SEQUENCE {a A OPTIONAL, b CHOICE {c [0] B, d NULL}, ..., [[e E]]}": "SET (SIZE (3)) OF SEQUENCE {a [1] INTEGER (0..9) OPTIONAL, b CHOICE {c [0] SEQUENCE {a A, b B OPTIONAL}, d NULL}, ..., [[e SEQUENCE {a INTEGER DEFAULT 5, ..., [[b D]]}]]}",
		"SEQUENCE {a A DEFAULT 5, b ANY}": "SEQUENCE {a [1] INTEGER (0..9) DEFAULT 5, b ANY}",
	} {
		y, e := modules.Unfolded(s, typeOf(t, text))
		wantResult(t, text, y, e, typeOf(t, want), api.OK)
	}
}

// P6.4: what would be too large: tags, types within it, and types within one another.
func TestUnfoldedTooLarge(t *testing.T) {
	s := schemaOf(t, "D ::= [2] [3] NULL", "N ::= "+listOfFields(9, "NULL"), "S ::= "+strings.Repeat("SET OF ", 4)+"NULL")
	for text, want := range map[string]api.Errno{
		"[1] D": api.OK, "[0] [1] D": api.ErrLarge, "SET OF [0] [1] D": api.ErrLarge,
		// N has 11 types
		"SEQUENCE {a N, b N, c N, d N, e N, f NULL, g NULL, h NULL, i NULL}": api.OK, "SEQUENCE {a N, b N, c N, d N, e N, f NULL, g NULL, h NULL, i NULL, j NULL}": api.ErrLarge,
		strings.Repeat("SEQUENCE OF ", 4) + "S": api.OK, strings.Repeat("SEQUENCE OF ", 5) + "S": api.ErrLarge,
	} {
		y, e := modules.Unfolded(s, typeOf(t, text))
		if e != want || e != api.OK && !alike(y, api.Type{}) {
			t.Errorf("%s: error %d, want %d", text, e, want)
		}
	}
}

// The examples of chapter 6; the first one is in TestTypesOfSchemas.
func TestExamples(t *testing.T) {
	s := schemaOf(t, "L ::= CHOICE {n NULL, c SEQUENCE {h INTEGER, t L}}")
	height, e := modules.HeightOf(s, ref("L"))
	wantResult(t, "the height of example 2", height, e, 2, api.OK)
	v, e := modules.LeastValue(s, ref("L"))
	wantResult(t, "the least value of example 2", v, e, union("n", api.Value{}), api.OK)
	wantSchema(t, []string{"M EXPLICIT T ::= INTEGER (5..3 EXCEPT 4)"}, nil, api.ErrRange)
	for text, want := range map[string]api.Errno{"INTEGER (5 EXCEPT 5)": api.ErrNone, "SEQUENCE {a INTEGER OPTIONAL, b INTEGER}": api.ErrTag} {
		wantRight(t, fmt.Sprint("example of ", text), schemaOf(t, "T ::= "+text), 0, want)
	}
}
