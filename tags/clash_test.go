package tags_test

import (
	"testing"

	"examiner/api"
	"examiner/tags"
)

// wantClash checks the first clash in a schema, or that there is none (no pair).
func wantClash(t *testing.T, s api.Schema, what string, want api.TagClash, clashes bool) {
	t.Helper()
	c, found, e := tags.ClashIn(s)
	if found != clashes {
		t.Errorf("%s: %v, want %v", what, found, clashes)
	}
	wantResult(t, what, c, e, want, api.OK)
}

// P3.4: which fields of a type must be told apart. No pair: nothing clashes.
func TestToldApart(t *testing.T) {
	for _, x := range []struct {
		text          string
		first, second int
		pair          string
	}{
		// records
		{"SEQUENCE {}", 0, 0, ""},
		{"SEQUENCE {a INTEGER OPTIONAL}", 0, 0, ""},
		{"SEQUENCE {a INTEGER, b INTEGER}", 0, 0, ""},
		{"SEQUENCE {a INTEGER OPTIONAL, b INTEGER}", 0, 1, "U2"},
		{"SEQUENCE {a INTEGER DEFAULT 1, b INTEGER}", 0, 1, "U2"},
		{"SEQUENCE {a INTEGER, b INTEGER OPTIONAL}", 0, 0, ""},
		{"SEQUENCE {a INTEGER OPTIONAL, b INTEGER OPTIONAL}", 0, 1, "U2"},
		{"SEQUENCE {a INTEGER OPTIONAL, b NULL, c INTEGER}", 0, 0, ""},
		{"SEQUENCE {a INTEGER OPTIONAL, b NULL, c INTEGER OPTIONAL}", 0, 0, ""},
		{"SEQUENCE {a INTEGER OPTIONAL, b NULL OPTIONAL, c INTEGER}", 0, 2, "U2"},
		{"SEQUENCE {a INTEGER OPTIONAL, b NULL DEFAULT NULL, c INTEGER OPTIONAL, d REAL}", 0, 2, "U2"},
		{"SEQUENCE {a REAL, b INTEGER OPTIONAL, c NULL OPTIONAL, d INTEGER, e NULL}", 1, 3, "U2"},
		{"SEQUENCE {a REAL, b INTEGER OPTIONAL, c NULL OPTIONAL, d REAL, e INTEGER}", 0, 0, ""},
		// additions count as optional, whatever they are; nothing else stands for those that are not known
		{"SEQUENCE {...}", 0, 0, ""},
		{"SEQUENCE {a ANY, ...}", 0, 0, ""},
		{"SEQUENCE {a ANY OPTIONAL, ...}", 0, 0, ""},
		{"SEQUENCE {a INTEGER, ..., b INTEGER}", 0, 0, ""},
		{"SEQUENCE {a INTEGER OPTIONAL, ..., b INTEGER}", 0, 1, "U2"},
		{"SEQUENCE {a INTEGER OPTIONAL, ..., b NULL, c INTEGER}", 0, 2, "U2"},
		{"SEQUENCE {a INTEGER OPTIONAL, b NULL, ..., c INTEGER}", 0, 0, ""},
		{"SEQUENCE {a INTEGER, b NULL OPTIONAL, ..., c INTEGER, d NULL}", 1, 3, "U5"},
		{"SEQUENCE {..., a INTEGER, b INTEGER}", 0, 1, "U2"},
		{"SEQUENCE {..., a INTEGER, b NULL, c INTEGER OPTIONAL}", 0, 2, "U2"},
		{"SEQUENCE {..., [[a INTEGER, b NULL]], [[c INTEGER]]}", 0, 2, "U2"},
		{"SEQUENCE {..., a INTEGER DEFAULT 5, b NULL, c REAL}", 0, 0, ""},
		// sets and unions
		{"SET {}", 0, 0, ""},
		{"SET {a INTEGER, b NULL}", 0, 0, ""},
		{"SET {a INTEGER, b INTEGER}", 0, 1, "U2"},
		{"SET {a INTEGER, b NULL, c INTEGER}", 0, 2, "U2"},
		{"SET {a NULL, ..., b INTEGER, c INTEGER}", 1, 2, "U2"},
		{"SET {a INTEGER, ..., [[b INTEGER]]}", 0, 1, "U2"},
		{"CHOICE {a INTEGER, ...}", 0, 0, ""},
		{"CHOICE {a INTEGER, b INTEGER}", 0, 1, "U2"},
		{"CHOICE {a NULL, b INTEGER, ..., c REAL, d INTEGER}", 1, 3, "U2"},
		{"ENUMERATED {a (0), b (1)}", 0, 0, ""},
		// what comes first
		{"SET {a INTEGER, b NULL, c NULL, d INTEGER}", 0, 3, "U2"},
		{"CHOICE {a REAL, b NULL, c NULL, d NULL}", 1, 2, "U5"},
		{"SEQUENCE {a NULL OPTIONAL, b INTEGER OPTIONAL, c INTEGER OPTIONAL, d NULL}", 0, 3, "U5"},
		// tags
		{"SET {a INTEGER, b [1] EXPLICIT INTEGER}", 0, 0, ""},
		{"SET {a [2] EXPLICIT INTEGER, b [1] EXPLICIT INTEGER}", 0, 0, ""},
		{"SET {a [1] EXPLICIT INTEGER, b [1] IMPLICIT NULL}", 0, 1, "C1"},
		{"SET {a [1] EXPLICIT INTEGER, b [APPLICATION 1] EXPLICIT INTEGER, c [PRIVATE 1] EXPLICIT NULL, d BOOLEAN}", 0, 0, ""},
		{"SET {a SEQUENCE {x NULL}, b SEQUENCE OF NULL}", 0, 1, "U16"},
		{"SET {a SET {x NULL}, b SET OF NULL}", 0, 1, "U17"},
		// the least pair of several
		{"SET {a CHOICE {x [3] EXPLICIT NULL, y [1] EXPLICIT NULL, z [PRIVATE 0] EXPLICIT NULL}, b CHOICE {x NULL, y [PRIVATE 0] EXPLICIT NULL, z [1] EXPLICIT NULL}}", 0, 1, "C1"},
		{"SET {a CHOICE {x NULL, y [PRIVATE 0] EXPLICIT NULL, z [APPLICATION 9] EXPLICIT NULL}, b CHOICE {x [APPLICATION 9] EXPLICIT NULL, y [PRIVATE 0] EXPLICIT NULL}}", 0, 1, "A9"},
		{"SET {a CHOICE {x NULL, y REAL}, b CHOICE {x BOOLEAN, y INTEGER}}", 0, 0, ""},
		{"CHOICE {a CHOICE {x NULL, y REAL}, b REAL}", 0, 1, "U9"},
		// anything
		{"SEQUENCE {a ANY, b ANY}", 0, 0, ""},
		{"SEQUENCE {a ANY OPTIONAL, b INTEGER}", 0, 1, "U2"},
		{"SEQUENCE {a INTEGER OPTIONAL, b ANY}", 0, 1, "U2"},
		{"SEQUENCE {a NULL, b ANY}", 0, 0, ""},
		{"SET {a CHOICE {x [3] EXPLICIT NULL, y [1] EXPLICIT NULL}, b ANY}", 0, 1, "C1"},
		{"SET {a ANY, b CHOICE {x [3] EXPLICIT NULL, y [1] EXPLICIT NULL}}", 0, 1, "C1"},
		{"SET {a ANY, b CHOICE {x NULL, y [1] EXPLICIT NULL}}", 0, 1, "U5"},
		{"SET {a [1] EXPLICIT ANY, b [2] EXPLICIT ANY}", 0, 0, ""},
		{"CHOICE {a ANY, b NULL}", 0, 1, "U5"},
		{"CHOICE {a ANY}", 0, 0, ""},
	} {
		want := api.TagClash{First: x.first, Second: x.second}
		if x.pair != "" {
			want.Tag = pairsIn(x.pair)[0]
		}
		wantClash(t, one("T", typeOf(t, x.text)), x.text, want, x.pair != "")
	}
}

// P3.4: of anything and anything it is the zero pair.
func TestAnythingTwice(t *testing.T) {
	for _, text := range []string{"SET {a ANY, b ANY}", "CHOICE {a ANY, b ANY}", "SEQUENCE {a ANY OPTIONAL, b ANY}", "SET {a ANY, b CHOICE {x ANY}}", "SEQUENCE {..., a ANY, b ANY}"} {
		wantClash(t, one("T", typeOf(t, text)), text, api.TagClash{Second: 1}, true)
	}
}

// P3.4: where the first clash is.
func TestFirstClash(t *testing.T) {
	for _, x := range []struct {
		items string
		want  api.TagClash
		found bool
	}{
		{"", api.TagClash{}, false},
		{"A ::= NULL B ::= SET {a A, b B OPTIONAL}", api.TagClash{}, false},
		{"A ::= SET {a NULL, b REAL} B ::= SET {a NULL, b NULL} C ::= SET {a NULL, b NULL}", api.TagClash{Type: 1, Second: 1}, true},
		{"A ::= SET {a SET {x NULL, y NULL}, b NULL, c NULL}", api.TagClash{First: 1, Second: 2}, true},
		{"A ::= SET {a NULL, b SET {x NULL, y NULL}}", api.TagClash{Way: []int{1}, Second: 1}, true},
		{"A ::= SEQUENCE {a SEQUENCE {x REAL, y SET {k REAL, l NULL, m NULL}}, b SET {k NULL, l NULL}}", api.TagClash{Way: []int{0, 1}, First: 1, Second: 2}, true},
		{"A ::= SEQUENCE {a REAL, b SEQUENCE {x REAL, y SET {k NULL, l REAL}, z SET OF CHOICE {k REAL, l NULL, m NULL}}}", api.TagClash{Way: []int{1, 2, 0}, First: 1, Second: 2}, true},
		{"A ::= SET OF SEQUENCE OF SET {a NULL, b NULL}", api.TagClash{Way: []int{0, 0}, Second: 1}, true},
		{"A ::= CHOICE {a SEQUENCE OF SET {x NULL, y NULL}, ..., b SET {x NULL, y NULL}}", api.TagClash{Way: []int{0, 0}, Second: 1}, true},
		{"A ::= B B ::= [1] IMPLICIT C C ::= SET OF D D ::= SET {a NULL, b NULL}", api.TagClash{Type: 3, Second: 1}, true},
		{"A ::= SET {a B, b C} B ::= CHOICE {x REAL, y CHOICE {k [1] EXPLICIT NULL, l NULL}} C ::= D D ::= CHOICE {x NULL, y [2] IMPLICIT REAL}", api.TagClash{Second: 1}, true},
		{"A ::= SET {a B, b [5] EXPLICIT C} B ::= C C ::= CHOICE {x NULL}", api.TagClash{}, false},
	} {
		if x.found {
			x.want.Tag = api.TagPair{Number: api.UniversalNull}
		}
		wantClash(t, schemaOf(t, x.items), x.items, x.want, x.found)
	}
}

// P3.4: the canonical order of the fields of sets and unions.
func TestCanonicalOrder(t *testing.T) {
	s := schemaOf(t, `
		A ::= ANY
		B ::= CHOICE {a [1] EXPLICIT NULL, b BOOLEAN}
		C ::= [3] IMPLICIT D
		D ::= SET {a NULL, b INTEGER, c REAL, d BOOLEAN}
		E ::= B
		F ::= CHOICE {a A, b INTEGER}`)
	for _, x := range []struct {
		text string
		want []int
	}{
		{"SET {}", nil},
		{"SET {a NULL}", []int{0}},
		{"SET {a NULL, b INTEGER, c REAL, d BOOLEAN}", []int{3, 1, 0, 2}},
		{"CHOICE {a NULL, b INTEGER, c REAL, d BOOLEAN}", []int{3, 1, 0, 2}},
		{"[5] EXPLICIT CHOICE {a NULL, b INTEGER}", []int{1, 0}},
		{"SET {a NULL OPTIONAL, b INTEGER DEFAULT 5, ..., c [PRIVATE 1] EXPLICIT NULL, [[d BOOLEAN]]}", []int{3, 1, 0, 2}},
		{"SET {a [PRIVATE 0] EXPLICIT NULL, b [2] EXPLICIT NULL, c [1] IMPLICIT NULL, d [APPLICATION 3] EXPLICIT NULL, e SET {}}", []int{4, 3, 2, 1, 0}},
		{"SET {a INTEGER, b B, c [1] EXPLICIT NULL}", []int{1, 0, 2}},
		{"CHOICE {a CHOICE {x REAL, y NULL}, b OCTET STRING, c OBJECT IDENTIFIER}", []int{1, 0, 2}},
		{"SET {a NULL, b NULL, c BOOLEAN, d NULL}", []int{2, 0, 1, 3}},
		{"SET {a ANY, b NULL, c A, d BOOLEAN}", []int{3, 1, 0, 2}},
		{"SET {a F, b [PRIVATE 100000] EXPLICIT NULL}", []int{1, 0}},
		{"SET {a ANY, b CHOICE {x [9] EXPLICIT NULL, y ANY}, c [PRIVATE 100000] EXPLICIT A}", []int{2, 0, 1}},
		{"B", []int{1, 0}},
		{"E", []int{1, 0}},
		{"[1] EXPLICIT [2] EXPLICIT E", []int{1, 0}},
		{"C", []int{3, 1, 0, 2}},
		{"D", []int{3, 1, 0, 2}},
		{"F", []int{1, 0}},
	} {
		order, e := tags.CanonicalOrder(s, typeOf(t, x.text))
		wantResult(t, x.text, order, e, x.want, api.OK)
	}
}

// P3.4: many fields with equal pairs stay in their order.
func TestCanonicalOrderOfEqualFields(t *testing.T) {
	var l []api.Type
	for i := range api.MaxFields {
		l = append(l, tagged(kind(api.TypeNull), context((api.MaxFields-i)%3, api.TagExplicit)))
	}
	order, e := tags.CanonicalOrder(nil, fields(api.TypeSet, l...))
	wantResult(t, "16 fields", order, e, []int{1, 4, 7, 10, 13, 0, 3, 6, 9, 12, 15, 2, 5, 8, 11, 14}, api.OK)
}

// P3.4: the errors of CanonicalOrder behind ErrState.
func TestCanonicalOrderFaults(t *testing.T) {
	s := schemaOf(t, `
		A ::= [1] EXPLICIT [2] EXPLICIT [3] EXPLICIT B
		B ::= [4] EXPLICIT [5] EXPLICIT [6] EXPLICIT SET {a REAL, b NULL}
		C ::= [7] EXPLICIT A
		I ::= INTEGER (1 | 2 | 3 | 4 | 5 | 6 | 7 | 8 | 9)`)
	for text, want := range map[string]api.Errno{
		"NULL": api.ErrKind, "SEQUENCE {a NULL}": api.ErrKind, "SET OF NULL": api.ErrKind, "ANY": api.ErrKind, "ENUMERATED {a (1)}": api.ErrKind, "I": api.ErrKind, "I (1)": api.ErrKind, "I (1 | 2)": api.ErrLarge,
		"A": api.OK, "B": api.OK, "C": api.ErrLarge, "[8] EXPLICIT A": api.ErrLarge, "SET {a C}": api.OK, "B (1)": api.ErrKind,
	} {
		order, e := tags.CanonicalOrder(s, typeOf(t, text))
		wantFault(t, text, outcome{[]any{order}, e}, want)
	}
}
