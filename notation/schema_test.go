package notation_test

import (
	"fmt"
	"slices"
	"strings"
	"testing"

	"examiner/api"
	"examiner/notation"
)

// schemaOf returns a schema of names and texts of types.
func schemaOf(t *testing.T, l ...string) api.Schema {
	t.Helper()
	var s api.Schema
	for i := 0; i < len(l); i += 2 {
		s = append(s, api.Named{Name: l[i], Type: typeOf(t, l[i+1])})
	}
	return s
}

// manyTypes returns a schema of so many types, each a reference to the next one but the last, which is NULL.
func manyTypes(n int) api.Schema {
	var s api.Schema
	for i := range n {
		s = append(s, api.Named{Name: fmt.Sprintf("T%02d", i), Type: ref(fmt.Sprintf("T%02d", i+1))})
	}
	if n > 0 {
		s[n-1].Type = null()
	}
	return s
}

func TestSchemas(t *testing.T) {
	named := func(name string, y api.Type) api.Named { return api.Named{Name: name, Type: y} }
	for what, x := range map[string]struct {
		s    api.Schema
		n    int
		want api.Errno
	}{
		"none":                  {nil, 0, api.OK},
		"empty":                 {api.Schema{}, 0, api.OK},
		"two":                   {api.Schema{named("A", null()), named("a", ref("X"))}, 2, api.OK},
		"24":                    {manyTypes(api.MaxTypes), api.MaxTypes, api.OK},
		"25":                    {manyTypes(api.MaxTypes + 1), 0, api.ErrLarge},
		"25 wrong ones":         {make(api.Schema, api.MaxTypes+1), 0, api.ErrLarge},
		"underscores":           {api.Schema{named("M_T", null()), named("M_T-1", null())}, 2, api.OK},
		"first name":            {api.Schema{named("", null())}, 0, api.ErrName},
		"second name":           {api.Schema{named("A", null()), named("B-", null())}, 1, api.ErrName},
		"same":                  {api.Schema{named("A", null()), named("A", null())}, 1, api.ErrOrder},
		"descending":            {api.Schema{named("A", null()), named("C", null()), named("B", null())}, 2, api.ErrOrder},
		"name before order":     {api.Schema{named("B", null()), named("A-", null())}, 1, api.ErrName},
		"order before type":     {api.Schema{named("B", null()), named("A", kind(-1))}, 1, api.ErrOrder},
		"type":                  {api.Schema{named("A", null()), named("B", kind(-1)), named("C-", null())}, 1, api.ErrKind},
		"type within":           {api.Schema{named("A", listOf(ref("?")))}, 0, api.ErrName},
		"parameters":            {api.Schema{named("A", null()), named("B", actual("A", null()))}, 1, api.ErrForm},
		"parameters within":     {api.Schema{named("A", listOf(fields(api.TypeSet, field("a", null()), field("b", actual("A", null())))))}, 0, api.ErrForm},
		"a field of a class":    {api.Schema{named("A", classField("id", "C", "S"))}, 0, api.ErrForm},
		"a class within":        {api.Schema{named("A", listOf(classField("id", "C", "S", "x")))}, 0, api.ErrForm},
		"open":                  {api.Schema{named("A", kind(api.TypeOpen))}, 1, api.OK},
		"type before its forms": {api.Schema{named("A", fields(api.TypeRecord, field("a", actual("A", null())), field("b", kind(-1))))}, 0, api.ErrKind},
		"item by item":          {api.Schema{named("A", actual("A", null())), named("?", null())}, 0, api.ErrForm},
	} {
		if n, e := notation.CheckTypes(x.s); n != x.n || e != x.want {
			t.Errorf("%s: %d, %d, want %d, %d", what, n, e, x.n, x.want)
		}
	}
}

// P2.2: example 4, and the tags and constraints of references.
func TestResolved(t *testing.T) {
	s := schemaOf(t,
		"A", "[0] INTEGER", "B", "INTEGER (0..9)", "C", "INTEGER (0..9, ...)", "D", "INTEGER (0..9, ..., 20)", "E", "B (1..8)", "F", "D (1..8, ..., 7)", "G", "[5] IMPLICIT [6] D", "L", "SEQUENCE (SIZE (1..3)) OF B", "R", "SEQUENCE {a B, b R OPTIONAL}", "T", "[1] INTEGER (0..9)")
	zero, five := span(0, 9), span(5, 20)
	both := func(l ...api.Limit) api.Limits { return append(l, node(api.LimitBoth, 0, 1)) }
	for _, x := range []struct {
		text string
		want api.Type
	}{
		{"NULL", null()},
		{"[3] INTEGER (5)", tagged(limited(kind(api.TypeInt), span(5, 5)), context(3, 0))},
		{"A", tagged(kind(api.TypeInt), context(0, 0))},
		{"A (5..20)", tagged(limited(kind(api.TypeInt), five), context(0, 0))},
		{"A (5..20, ...)", tagged(limited(kind(api.TypeInt), five, node(api.LimitMarker, 0)), context(0, 0))},
		{"[2] T (5..20)", tagged(limited(kind(api.TypeInt), both(zero, five)...), context(2, 0), context(1, 0))},
		{"B", limited(kind(api.TypeInt), zero)},
		{"C", limited(kind(api.TypeInt), zero, node(api.LimitMarker, 0))},
		{"D", limited(kind(api.TypeInt), zero, span(20, 20), node(api.LimitMarker, 0, 1))},
		{"C (5..20)", limited(kind(api.TypeInt), both(zero, five)...)},
		{"D (5..20)", limited(kind(api.TypeInt), both(zero, five)...)},
		{"B (5..20, ...)", limited(kind(api.TypeInt), append(both(zero, five), node(api.LimitMarker, 2))...)},
		{"D (5..20, ..., 3)", limited(kind(api.TypeInt), append(both(zero, five), zero, span(3, 3), node(api.LimitBoth, 3, 4), node(api.LimitMarker, 2, 5))...)},
		{"D (5..20 | 3, ..., 3 ^ 4)", limited(kind(api.TypeInt), zero, five, span(3, 3), node(api.LimitUnion, 1, 2), node(api.LimitBoth, 0, 3), zero, span(3, 3), span(4, 4), node(api.LimitBoth, 6, 7), node(api.LimitBoth, 5, 8), node(api.LimitMarker, 4, 9))},
		{"E", limited(kind(api.TypeInt), both(zero, span(1, 8))...)},
		{"E (5..20)", limited(kind(api.TypeInt), zero, span(1, 8), five, node(api.LimitBoth, 1, 2), node(api.LimitBoth, 0, 3))},
		{"F", limited(kind(api.TypeInt), zero, span(1, 8), node(api.LimitBoth, 0, 1), zero, span(7, 7), node(api.LimitBoth, 3, 4), node(api.LimitMarker, 2, 5))},
		{"[1] EXPLICIT [2] G", tagged(limited(kind(api.TypeInt), zero, span(20, 20), node(api.LimitMarker, 0, 1)), context(1, api.TagExplicit), context(2, 0), context(5, api.TagImplicit), context(6, 0))},
		{"L (SIZE (2))", limited(listOf(ref("B")), span(1, 3), node(api.LimitSize, 0), span(2, 2), node(api.LimitSize, 2), node(api.LimitBoth, 1, 3))},
		{"R", typeOf(t, "SEQUENCE {a B, b R OPTIONAL}")},
		{"SEQUENCE {a B (1)}", typeOf(t, "SEQUENCE {a B (1)}")},
	} {
		y, e := notation.Resolved(s, typeOf(t, x.text))
		if !alike(y, x.want) || e != api.OK {
			t.Errorf("%s: %+v, %d, want %+v", x.text, y, e, x.want)
		}
	}
}

// The example of README.md.
func TestResolvedIsWritten(t *testing.T) {
	resolved, e := notation.Resolved(schemaOf(t, "T", "[1] INTEGER (0..9)"), typeOf(t, "[2] T (5..20)"))
	wantErr(t, "Resolved", e, api.OK)
	if s, e := notation.FormatType(resolved); s != "[2] [1] INTEGER (0..9 ^ 5..20)" || e != api.OK {
		t.Errorf("%q, %d", s, e)
	}
}

func TestResolvedFaults(t *testing.T) {
	s := schemaOf(t,
		"A", "[1] [2] [3] B", "B", "[4] [5] [6] NULL", "C", "C", "D", "E", "E", "D", "F", "[1] F", "G", "H", "I", "INTEGER ("+strings.Repeat("1 | ", 8)+"1)", "K", "[1] A", "L", "SEQUENCE OF NULL", "N", "NULL", "O", "N", "Q", "Q (1)")
	for _, x := range []struct {
		s    api.Schema
		y    api.Type
		want api.Errno
	}{
		{append(slices.Clone(s), api.Named{Name: "A"}), kind(-1), api.ErrOrder},
		{api.Schema{{Name: "T", Type: actual("T", null())}}, kind(-1), api.ErrForm},
		{s, kind(-1), api.ErrKind},
		{s, actual("A", kind(-1)), api.ErrKind},
		{s, actual("A", null()), api.ErrForm},
		{s, listOf(classField("a", "B", "C")), api.ErrForm},
		{s, listOf(actual("A", null())), api.ErrForm},
		{s, listOf(ref("X")), api.OK},
		{s, ref("X"), api.ErrMissing}, {nil, ref("X"), api.ErrMissing}, {s, ref("G"), api.ErrMissing},
		{s, ref("C"), api.ErrLoop}, {s, ref("D"), api.ErrLoop}, {s, ref("E"), api.ErrLoop},
		{s, ref("A"), api.OK}, {s, tagged(ref("A"), context(0, 0)), api.ErrLarge}, {s, ref("K"), api.ErrLarge}, {s, ref("F"), api.ErrLarge}, {s, ref("Q"), api.ErrLarge},
		{s, limited(ref("I"), span(1, 1)), api.OK}, {s, limited(ref("I"), span(1, 1), node(api.LimitMarker, 0)), api.OK}, {s, limited(ref("I"), span(1, 1), span(2, 2), node(api.LimitUnion, 0, 1)), api.ErrLarge}, {s, limited(ref("I"), span(1, 1), span(2, 2), node(api.LimitMarker, 0, 1)), api.ErrLarge},
		{s, limited(ref("N"), span(1, 1)), api.ErrKind}, {s, limited(ref("O"), span(1, 1)), api.ErrKind}, {s, limited(ref("L"), span(1, 1)), api.OK}, {s, ref("O"), api.OK},
		{s, limited(ref("B"), span(1, 1)), api.ErrKind}, {s, tagged(limited(ref("A"), span(1, 1)), context(0, 0)), api.ErrLarge},
		{manyTypes(api.MaxTypes), ref("T00"), api.OK}, {manyTypes(api.MaxTypes), listOf(ref("T00")), api.OK},
		{manyTypes(api.MaxTypes + 1), ref("T00"), api.ErrLarge},
	} {
		y, e := notation.Resolved(x.s, x.y)
		if e != x.want || e != api.OK && !alike(y, api.Type{}) {
			t.Errorf("%+v: %+v, error %d, want %d", x.y, y, e, x.want)
		}
	}
}
