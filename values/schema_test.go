package values_test

import (
	"fmt"
	"testing"

	"examiner/api"
	"examiner/notation"
	"examiner/values"
)

func wantSchema(t *testing.T, what string, s api.Schema, index int, e api.Errno) {
	t.Helper()
	i, got := values.CheckSchema(s)
	wantResult(t, "CheckSchema of "+what, i, got, index, e)
}

// P5.1: what CheckTypes says, then constraints and references, type by type.
func TestSchemas(t *testing.T) {
	wantSchema(t, "nothing", nil, 0, api.OK)
	for _, x := range []struct {
		lines []string
		index int
		e     api.Errno
	}{
		{[]string{"A ::= INTEGER (0..7)"}, 1, api.OK},
		{[]string{"A ::= B", "B ::= A"}, 2, api.OK},
		{[]string{"A ::= SEQUENCE {a SET OF C, b CHOICE {c B}}", "B ::= D-2", "C ::= NULL", "D-2 ::= C"}, 4, api.OK},
		{[]string{"B ::= NULL", "A ::= NULL"}, 1, api.ErrOrder},
		{[]string{"A ::= NULL", "A ::= NULL"}, 1, api.ErrOrder},
		{[]string{"A ::= NULL", "B ::= C {NULL}"}, 1, api.ErrForm},
		{[]string{"A ::= NULL", "B ::= SET OF C.&f ({S})"}, 1, api.ErrForm},
		{[]string{"A ::= INTEGER (5..3)"}, 0, api.ErrRange},
		{[]string{"A ::= NULL", "B ::= INTEGER (SIZE (3))"}, 1, api.ErrType},
		{[]string{"A ::= NULL", "B ::= A (0..7)"}, 1, api.ErrKind},
		{[]string{"A ::= SEQUENCE {a NULL, b SET {c INTEGER (1..0)}}"}, 0, api.ErrRange},
		{[]string{"A ::= CHOICE {a NULL, ..., b INTEGER (1..0)}"}, 0, api.ErrRange},
		{[]string{"A ::= SEQUENCE OF INTEGER (1..0)"}, 0, api.ErrRange},
		{[]string{"A ::= NULL", "B ::= C"}, 1, api.ErrMissing},
		{[]string{"A ::= NULL", "B ::= SEQUENCE {a NULL, ..., [[b SET OF C]]}"}, 1, api.ErrMissing},
	} {
		wantSchema(t, fmt.Sprint(x.lines), schemaOf(t, x.lines...), x.index, x.e)
	}
}

// P5.1: what CheckTypes says of any type comes before the rest; then types go one by one, each itself first, then Fields, then Of.
func TestOrderOfSchemaErrors(t *testing.T) {
	for _, x := range []struct {
		lines []string
		index int
		e     api.Errno
	}{
		{[]string{"A ::= Z", "B ::= NULL", "B ::= NULL"}, 2, api.ErrOrder},
		{[]string{"A ::= INTEGER (1..0)", "B ::= C {NULL}"}, 1, api.ErrForm},
		{[]string{"A ::= Z", "B ::= INTEGER (1..0)"}, 0, api.ErrMissing},
		{[]string{"A ::= INTEGER (1..0)", "B ::= Z"}, 0, api.ErrRange},
		{[]string{"A ::= Z (1..0)"}, 0, api.ErrKind},
		{[]string{"A ::= SEQUENCE (SIZE (1..0)) OF Z"}, 0, api.ErrRange},
		{[]string{"A ::= SEQUENCE {a Z, b INTEGER (1..0)}"}, 0, api.ErrMissing},
		{[]string{"A ::= SEQUENCE {a INTEGER (1..0), b Z}"}, 0, api.ErrRange},
		{[]string{"A ::= SEQUENCE {a SET {b Z}, b INTEGER (1..0)}"}, 0, api.ErrMissing},
	} {
		wantSchema(t, fmt.Sprint(x.lines), schemaOf(t, x.lines...), x.index, x.e)
	}
	wrong := schemaOf(t, "A ::= Z")
	wrong[0].Type.Root = 1
	wantSchema(t, "an ill-formed reference", wrong, 0, api.ErrRange)
	wrong[0].Name = ""
	wantSchema(t, "a type without a name", wrong, 0, api.ErrName)
}

// P5.1: at most MaxTypes types, and what chapter 2 permits of each.
func TestLargeSchemas(t *testing.T) {
	var s api.Schema
	for i := range api.MaxTypes {
		s = append(s, api.Named{Name: fmt.Sprintf("T%02d", i), Type: ref("T00")})
	}
	wantSchema(t, "as many types as may be", s, api.MaxTypes, api.OK)
	s = append(s, api.Named{Name: "U"})
	wantSchema(t, "one more", s, 0, api.ErrLarge)
	s = s[:2]
	s[1].Type = listType(api.Type{Tags: make([]api.Tag, 4)})
	wantSchema(t, "a type with too many tags", s, 1, api.ErrLarge)
}

// P5.2: the errors of a type in a schema; all three of a type within it come before those of the next one.
func TestTypesInSchemas(t *testing.T) {
	s := schemaOf(t, "A ::= NULL")
	for text, e := range map[string]api.Errno{
		"A":                                    api.OK,
		"SEQUENCE {a A}":                       api.OK,
		"A {NULL}":                             api.ErrForm,
		"C.&f ({S})":                           api.ErrForm,
		"SET OF C.&f ({S} {@a})":               api.ErrForm,
		"A (1..0)":                             api.ErrKind,
		"INTEGER (1..0)":                       api.ErrRange,
		"INTEGER (SIZE (1))":                   api.ErrType,
		"B":                                    api.ErrMissing,
		"B (1..0)":                             api.ErrKind,
		"B {NULL} (1..0)":                      api.ErrForm,
		"SEQUENCE {a INTEGER (1..0), b A {A}}": api.ErrRange,
		"SEQUENCE {a B, b A {A}}":              api.ErrMissing,
		"SEQUENCE {a A {A}, b B}":              api.ErrForm,
		"SET (SIZE (1..0)) OF B":               api.ErrRange,
	} {
		y := typeOf(t, text)
		_, got := values.Fits(s, y, api.Value{Kind: api.ValueVerdict})
		want := e
		if e == api.OK {
			want = api.ErrType
		}
		wantResult(t, "Fits "+text, 0, got, 0, want)
		_, at, got := values.ParseValue(s, y, "")
		if e == api.OK {
			want = api.ErrEnd
		}
		wantResult(t, "ParseValue "+text, at, got, 0, want)
	}
	deep := api.Type{}
	for range api.MaxDepth {
		deep = listType(deep)
	}
	_, e := values.Fits(s, deep, list())
	wantResult(t, "Fits a type as deep as may be", 0, e, 0, api.OK)
	_, e = values.Fits(s, listType(deep), list())
	wantResult(t, "Fits a type that is too deep", 0, e, 0, api.ErrLarge)
	wrong := typeOf(t, "SEQUENCE {a B}")
	wrong.Root = 2
	_, e = values.Fits(s, wrong, list())
	wantResult(t, "Fits an ill-formed type", 0, e, 0, notation.CheckType(wrong))
}

// The errors of arguments come in this order: the schema, the type, the value by itself, the fitting.
func TestOrderOfArguments(t *testing.T) {
	schema := schemaOf(t, "A ::= B")
	y := typeOf(t, "INTEGER (1..0)")
	v := api.Value{Kind: api.ValueBool, N: 2}
	for _, x := range []struct {
		s api.Schema
		y api.Type
		v api.Value
		e api.Errno
	}{
		{schema, y, v, api.ErrMissing},
		{nil, y, v, api.ErrRange},
		{nil, typeOf(t, "C {NULL}"), v, api.ErrForm},
		{nil, api.Type{Kind: api.TypeKinds}, v, api.ErrKind},
		{nil, typeOf(t, "NULL"), v, api.ErrRange},
		{nil, typeOf(t, "NULL"), api.Value{Kind: api.ValueBool, N: 1}, api.ErrType},
		{nil, typeOf(t, "BOOLEAN"), api.Value{Kind: api.ValueBool, N: 1}, api.OK},
	} {
		what := fmt.Sprintf("of %v, %v, %v", x.s, x.y, x.v)
		_, e := values.Fits(x.s, x.y, x.v)
		wantResult(t, "Fits "+what, 0, e, 0, x.e)
		_, e = values.Normal(x.s, x.y, x.v)
		wantResult(t, "Normal "+what, 0, e, 0, x.e)
		_, e = values.IsNormal(x.s, x.y, x.v)
		wantResult(t, "IsNormal "+what, 0, e, 0, x.e)
		_, e = values.TypeAt(x.s, x.y, x.v, nil)
		wantResult(t, "TypeAt "+what, 0, e, 0, x.e)
		_, e = values.FormatValue(x.s, x.y, x.v)
		wantResult(t, "FormatValue "+what, 0, e, 0, x.e)
	}
}
