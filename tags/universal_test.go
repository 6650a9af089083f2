package tags_test

import (
	"testing"

	"examiner/api"
	"examiner/tags"
)

// P3.1: the universal tags of all kinds.
func TestUniversalTags(t *testing.T) {
	for text, want := range map[string]string{
		"NULL":                       "U5",
		"BOOLEAN":                    "U1",
		"INTEGER":                    "U2",
		"INTEGER (1..2)":             "U2",
		"ENUMERATED {a (5)}":         "U10",
		"BIT STRING":                 "U3",
		"OCTET STRING":               "U4",
		"NumericString":              "U18",
		"PrintableString":            "U19",
		"IA5String":                  "U22",
		"VisibleString":              "U26",
		"OBJECT IDENTIFIER":          "U6",
		"REAL":                       "U9",
		"SEQUENCE {}":                "U16",
		"SEQUENCE {a NULL}":          "U16",
		"SET {a NULL}":               "U17",
		"SEQUENCE OF SET {}":         "U16",
		"SET OF SEQUENCE {}":         "U17",
		"[7] NULL":                   "U5",
		"[7] IMPLICIT [8] INTEGER":   "U2",
		"[PRIVATE 7] EXPLICIT SET{}": "U17",
	} {
		pair, e := tags.UniversalOf(typeOf(t, text))
		wantResult(t, text, pair, e, pairsIn(want)[0], api.OK)
	}
}

// P3.1: kinds without a universal tag, and types that are none.
func TestNoUniversalTag(t *testing.T) {
	for _, x := range []struct {
		y    api.Type
		want api.Errno
	}{
		{typeOf(t, "CHOICE {a NULL}"), api.ErrNone}, {typeOf(t, "[1] CHOICE {a NULL}"), api.ErrNone}, {kind(api.TypeOpen), api.ErrNone}, {typeOf(t, "C.&T ({S} {@a})"), api.ErrNone}, {ref("T"), api.ErrNone}, {typeOf(t, "[1] T {NULL}"), api.ErrNone},
		{kind(-1), api.ErrKind}, {kind(api.TypeKinds), api.ErrKind},
		{kind(api.TypeUnion), api.ErrShape}, {kind(api.TypeList), api.ErrShape}, {kind(api.TypeRef), api.ErrName}, {kind(api.TypeChars), api.ErrName}, {api.Type{Kind: api.TypeChars, Name: "UTF8String"}, api.ErrName},
		{api.Type{Kind: api.TypeInt, Name: "a"}, api.ErrForm}, {tagged(kind(api.TypeNull), api.Tag{}), api.ErrRange}, {fields(api.TypeRecord, kind(-1)), api.ErrKind},
		{wide(api.MaxTypeNodes + 1), api.ErrLarge}, {deep(api.MaxDepth + 2), api.ErrLarge},
	} {
		pair, e := tags.UniversalOf(x.y)
		wantResult(t, "UniversalOf", pair, e, api.TagPair{}, x.want)
	}
	for _, y := range []api.Type{wide(api.MaxTypeNodes), deep(api.MaxDepth + 1)} {
		pair, e := tags.UniversalOf(y)
		wantResult(t, "a great type", pair, e, api.TagPair{Number: api.UniversalSequence}, api.OK)
	}
}
