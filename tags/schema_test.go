package tags_test

import (
	"slices"
	"testing"

	"examiner/api"
	"examiner/tags"
)

// outcome is what a call returns: all results but the error, and the error.
type outcome struct {
	results []any
	e       api.Errno
}

func outcomeOf[T any](x T, e api.Errno) outcome { return outcome{[]any{x}, e} }

// schemaCalls are the functions that have a schema alone.
func schemaCalls() map[string]func(api.Schema) outcome {
	return map[string]func(api.Schema) outcome{
		"Settled":   func(s api.Schema) outcome { return outcomeOf(tags.Settled(s, api.WayImplicit)) },
		"IsSettled": func(s api.Schema) outcome { return outcomeOf(tags.IsSettled(s)) },
		"ClashIn": func(s api.Schema) outcome {
			c, found, e := tags.ClashIn(s)
			return outcome{[]any{c, found}, e}
		},
	}
}

// typeCalls are the functions that have a type in a schema.
func typeCalls() map[string]func(api.Schema, api.Type) outcome {
	return map[string]func(api.Schema, api.Type) outcome{
		"PairsOf": func(s api.Schema, y api.Type) outcome { return outcomeOf(tags.PairsOf(s, y)) },
		"BeginsWith": func(s api.Schema, y api.Type) outcome {
			pairs, anything, e := tags.BeginsWith(s, y)
			return outcome{[]any{pairs, anything}, e}
		},
		"CanonicalOrder": func(s api.Schema, y api.Type) outcome { return outcomeOf(tags.CanonicalOrder(s, y)) },
		"WithComponents": func(s api.Schema, y api.Type) outcome { return outcomeOf(tags.WithComponents(s, y)) },
	}
}

func isNothing(x any) bool {
	switch x := x.(type) {
	case api.Schema:
		return len(x) == 0
	case api.Type:
		return alike(x, api.Type{})
	case api.TagClash:
		return alike(x, api.TagClash{})
	case []api.TagPair:
		return len(x) == 0
	case []int:
		return len(x) == 0
	}
	return x == false
}

// wantFault checks an error, and that nothing else is returned with it.
func wantFault(t *testing.T, what string, o outcome, want api.Errno) {
	t.Helper()
	if o.e != want || want != api.OK && slices.ContainsFunc(o.results, func(x any) bool { return !isNothing(x) }) {
		t.Errorf("%s: %+v, error %d, want %d", what, o.results, o.e, want)
	}
}

func one(name string, y api.Type) api.Schema { return api.Schema{{Name: name, Type: y}} }

// The error of a schema, which all functions of one have first.
func TestSchemaFaults(t *testing.T) {
	parametrized := api.Type{Kind: api.TypeRef, Name: "T", Fields: []api.Field{{}}}
	for what, x := range map[string]struct {
		s    api.Schema
		want api.Errno
	}{
		"25 types":                             {chain(api.MaxTypes+1, same, kind(api.TypeNull)), api.ErrLarge},
		"no name":                              {one("", kind(api.TypeNull)), api.ErrName},
		"disorder":                             {api.Schema{{Name: "B"}, {Name: "A"}}, api.ErrOrder},
		"one name twice":                       {api.Schema{{Name: "A"}, {Name: "A"}}, api.ErrOrder},
		"a kind":                               {one("T", kind(api.TypeKinds)), api.ErrKind},
		"a kind within":                        {one("T", fields(api.TypeSet, kind(-1))), api.ErrKind},
		"61 types":                             {one("T", wide(api.MaxTypeNodes+1)), api.ErrLarge},
		"10 deep":                              {one("T", deep(api.MaxDepth+2)), api.ErrLarge},
		"parameters":                           {one("T", parametrized), api.ErrForm},
		"a field of a class":                   {one("T", typeOf(t, "SET OF C.&T ({S})")), api.ErrForm},
		"a reference to nothing":               {one("T", ref("U")), api.ErrMissing},
		"one within a field":                   {schemaOf(t, "T ::= SEQUENCE {a NULL, b [1] U}"), api.ErrMissing},
		"one within items":                     {schemaOf(t, "S ::= NULL T ::= SET OF SET OF U"), api.ErrMissing},
		"the error of a later type first":      {api.Schema{{Name: "A", Type: ref("U")}, {Name: "B", Type: kind(-1)}}, api.ErrKind},
		"ErrMissing of a later type first":     {schemaOf(t, "T ::= T U ::= V"), api.ErrMissing},
		"itself":                               {schemaOf(t, "T ::= T"), api.ErrLoop},
		"itself with tags":                     {schemaOf(t, "T ::= [1] EXPLICIT T"), api.ErrLoop},
		"itself with a constraint":             {schemaOf(t, "T ::= T (1)"), api.ErrLoop},
		"a circle of three":                    {schemaOf(t, "A ::= B B ::= [1] C C ::= A"), api.ErrLoop},
		"a type that leads to a circle":        {schemaOf(t, "A ::= B B ::= C C ::= B"), api.ErrLoop},
		"a union of itself":                    {schemaOf(t, "T ::= CHOICE {a T}"), api.ErrLoop},
		"a union of itself and another":        {schemaOf(t, "T ::= CHOICE {a NULL, b [0] NULL, c T}"), api.ErrLoop},
		"a union of itself as an addition":     {schemaOf(t, "T ::= CHOICE {a NULL, ..., b T}"), api.ErrLoop},
		"a union within a union":               {schemaOf(t, "T ::= CHOICE {a CHOICE {b NULL, c CHOICE {d T}}}"), api.ErrLoop},
		"unions and references":                {schemaOf(t, "A ::= B B ::= CHOICE {a [0] NULL, c C} C ::= [1] D D ::= CHOICE {x CHOICE {y A}}"), api.ErrLoop},
		"a reference with tags behind a union": {schemaOf(t, "T ::= CHOICE {a U} U ::= [1] T"), api.ErrLoop},
	} {
		for name, of := range schemaCalls() {
			wantFault(t, name+" of "+what, of(x.s), x.want)
		}
		for name, of := range typeCalls() {
			wantFault(t, name+" in "+what, of(x.s, kind(api.TypeNull)), x.want)
			wantFault(t, name+" of no type in "+what, of(x.s, kind(-1)), x.want)
		}
		l, e := tags.Settled(x.s, api.None)
		wantResult(t, "Settled by no way: "+what, l, e, api.Schema{}, x.want)
	}
}

// The edge case of chapter 3, and others of references that are no circles.
func TestRightSchemas(t *testing.T) {
	for _, s := range []api.Schema{
		nil,
		schemaOf(t, "T ::= CHOICE {a [0] EXPLICIT T, b NULL}"),
		schemaOf(t, "T ::= CHOICE {a CHOICE {b [0] EXPLICIT T, c NULL}}"),
		schemaOf(t, "T ::= CHOICE {a [0] EXPLICIT CHOICE {b T}, c NULL}"),
		schemaOf(t, "T ::= CHOICE {a SEQUENCE {b T}, c NULL}"),
		schemaOf(t, "T ::= SEQUENCE {a T OPTIONAL}"),
		schemaOf(t, "T ::= SET OF T"),
		schemaOf(t, "T ::= SEQUENCE {a U OPTIONAL} U ::= CHOICE {a T}"),
		schemaOf(t, "A ::= CHOICE {a C, b B} B ::= CHOICE {a [0] EXPLICIT C, b D} C ::= D D ::= NULL"),
		chain(api.MaxTypes, same, kind(api.TypeNull)),
		one("T", wide(api.MaxTypeNodes)),
		one("T", deep(api.MaxDepth+1)),
	} {
		for name, of := range schemaCalls() {
			wantFault(t, name, of(s), api.OK)
		}
		wantFault(t, "PairsOf", typeCalls()["PairsOf"](s, kind(api.TypeNull)), api.OK)
	}
}

// The error of a type in a schema, which comes behind that of the schema, and before all others.
func TestTypeFaults(t *testing.T) {
	unsettled := schemaOf(t, "T ::= [1] NULL U ::= T V ::= SEQUENCE {a T}")
	for _, x := range []struct {
		what string
		y    api.Type
		want api.Errno
	}{
		{"a kind", kind(api.TypeKinds), api.ErrKind},
		{"no tag", tagged(ref("X"), api.Tag{}), api.ErrRange},
		{"a kind within, and a strange reference", fields(api.TypeRecord, ref("X"), kind(-1)), api.ErrKind},
		{"two fields of one name", api.Type{Kind: api.TypeSet, Fields: []api.Field{{Name: "a"}, {Name: "a"}}, Root: 2}, api.ErrDouble},
		{"61 types", wide(api.MaxTypeNodes + 1), api.ErrLarge},
		{"10 deep", deep(api.MaxDepth + 2), api.ErrLarge},
		{"parameters", typeOf(t, "T {NULL}"), api.ErrForm},
		{"parameters within, and a strange reference", typeOf(t, "SEQUENCE {a X, b T {NULL}}"), api.ErrForm},
		{"a kind in a parameter", api.Type{Kind: api.TypeRef, Name: "T", Fields: []api.Field{{Type: kind(-1)}}}, api.ErrKind},
		{"a field of a class", typeOf(t, "SET OF C.&T ({S})"), api.ErrForm},
		{"a strange reference", ref("X"), api.ErrMissing},
		{"a strange reference within", typeOf(t, "[1] SET OF SEQUENCE {a T, b X}"), api.ErrMissing},
	} {
		for name, of := range typeCalls() {
			wantFault(t, name+": "+x.what, of(unsettled, x.y), x.want)
		}
	}
}

// ErrState, behind the errors of the schema and the type, and before all others.
func TestUnsettled(t *testing.T) {
	settled := schemaOf(t, "T ::= [1] EXPLICIT NULL U ::= CHOICE {a NULL}")
	unsettled := []api.Schema{
		schemaOf(t, "T ::= [1] NULL U ::= CHOICE {a NULL}"),
		schemaOf(t, "T ::= NULL U ::= CHOICE {a SET OF [1] NULL}"),
		schemaOf(t, "T ::= NULL U ::= CHOICE {a [1] IMPLICIT CHOICE {b NULL}}"),
		schemaOf(t, "T ::= [1] IMPLICIT U U ::= CHOICE {a NULL}"),
		schemaOf(t, "T ::= [1] IMPLICIT ANY U ::= CHOICE {a NULL}"),
	}
	for name, of := range typeCalls() {
		want := api.ErrState
		if name == "WithComponents" {
			want = api.ErrKind
		}
		for _, s := range unsettled {
			wantFault(t, name+" in an unsettled schema", of(s, kind(api.TypeNull)), want)
			wantFault(t, name+" in an unsettled schema", of(s, ref("U")), want)
		}
		for _, text := range []string{"[1] NULL", "[1] EXPLICIT [2] T", "[1] IMPLICIT U", "[1] IMPLICIT CHOICE {a NULL}", "[1] EXPLICIT CHOICE {a [1] T}", "SET OF [1] IMPLICIT ANY"} {
			wantFault(t, name+" of "+text, of(settled, typeOf(t, text)), want)
		}
	}
	c, found, e := tags.ClashIn(unsettled[0])
	wantFault(t, "ClashIn of an unsettled schema", outcome{[]any{c, found}, e}, api.ErrState)
	c, found, e = tags.ClashIn(schemaOf(t, "S ::= SET {a NULL, b NULL} T ::= [1] NULL"))
	wantFault(t, "ClashIn of an unsettled schema with a clash", outcome{[]any{c, found}, e}, api.ErrState)
}
