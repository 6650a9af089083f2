package tags_test

import (
	"fmt"
	"strings"
	"testing"

	"examiner/api"
	"examiner/tags"
)

const componentTypes = `
	A ::= SEQUENCE {a NULL, b [1] INTEGER (0..5) DEFAULT 3}
	B ::= [5] A
	C ::= SEQUENCE {c REAL OPTIONAL, ..., d NULL, components A}
	D ::= SEQUENCE {e NULL, components C, f SEQUENCE {components A}}
	E ::= SEQUENCE {}
	F ::= SEQUENCE {...}
	G ::= SET {a NULL, components H}
	H ::= SET {b NULL}
	I ::= SEQUENCE {components J} J ::= SEQUENCE {components I}
	K ::= SEQUENCE {k NULL, components K}
	L ::= [1] [2] [3] M M ::= [4] [5] [6] A N ::= [7] L
	O ::= CHOICE {a NULL}
	P ::= SEQUENCE {components NULL}
	Q ::= SEQUENCE {components H}`

// P3.5: COMPONENTS OF put in.
func TestComponents(t *testing.T) {
	s := schemaOf(t, componentTypes)
	for text, want := range map[string]string{
		"SEQUENCE {}":                              "SEQUENCE {}",
		"SET {a NULL, ..., b A}":                   "SET {a NULL, ..., b A}",
		"SEQUENCE {components A}":                  "SEQUENCE {a NULL, b [1] INTEGER (0..5) DEFAULT 3}",
		"[1] SEQUENCE {x NULL, components A, y A}": "[1] SEQUENCE {x NULL, a NULL, b [1] INTEGER (0..5) DEFAULT 3, y A}",
		"SEQUENCE {x NULL, components B}":          "SEQUENCE {x NULL, a NULL, b [1] INTEGER (0..5) DEFAULT 3}",
		"SEQUENCE {components L}":                  "SEQUENCE {a NULL, b [1] INTEGER (0..5) DEFAULT 3}",
		"SEQUENCE {components C}":                  "SEQUENCE {c REAL OPTIONAL}",
		"SEQUENCE {x NULL, components D, y NULL}":  "SEQUENCE {x NULL, e NULL, c REAL OPTIONAL, f SEQUENCE {components A}, y NULL}",
		"SEQUENCE {x NULL, components E, y NULL}":  "SEQUENCE {x NULL, y NULL}",
		"SEQUENCE {components F}":                  "SEQUENCE {}",
		"SET {components G}":                       "SET {a NULL, b NULL}",
		// in the root, and in the additions
		"SEQUENCE {x NULL, components A, ..., y NULL}":              "SEQUENCE {x NULL, a NULL, b [1] INTEGER (0..5) DEFAULT 3, ..., y NULL}",
		"SEQUENCE {components E, ..., y NULL}":                      "SEQUENCE {..., y NULL}",
		"SEQUENCE {x NULL, ..., components A, y NULL}":              "SEQUENCE {x NULL, ..., a NULL, b [1] INTEGER (0..5) DEFAULT 3, y NULL}",
		"SEQUENCE {..., [[x NULL]], [[components A, y NULL]]}":      "SEQUENCE {..., [[x NULL]], [[a NULL, b [1] INTEGER (0..5) DEFAULT 3, y NULL]]}",
		"SEQUENCE {..., x NULL, [[components D]]}":                  "SEQUENCE {..., x NULL, [[e NULL, c REAL OPTIONAL, f SEQUENCE {components A}]]}",
		"SEQUENCE {..., components E}":                              "SEQUENCE {...}",
		"SEQUENCE {..., x NULL, components E, y NULL}":              "SEQUENCE {..., x NULL, y NULL}",
		"SEQUENCE {..., [[x NULL, components F]], [[y NULL]]}":      "SEQUENCE {..., [[x NULL]], [[y NULL]]}",
		"SET {a REAL, ..., [[components H, c NULL]], [[d A, e A]]}": "SET {a REAL, ..., [[b NULL, c NULL]], [[d A, e A]]}",
		// what is no COMPONENTS OF
		"SEQUENCE {components [1] A}":             "SEQUENCE {components [1] A}",
		"SEQUENCE {components A OPTIONAL}":        "SEQUENCE {components A OPTIONAL}",
		"SEQUENCE {components A DEFAULT {}}":      "SEQUENCE {components A DEFAULT {}}",
		"SEQUENCE {components SEQUENCE {x NULL}}": "SEQUENCE {components SEQUENCE {x NULL}}",
		"SEQUENCE {components NULL}":              "SEQUENCE {components NULL}",
		"SEQUENCE {components P}":                 "SEQUENCE {components NULL}",
		"SEQUENCE {component A, components-1 A}":  "SEQUENCE {component A, components-1 A}",
		"SEQUENCE {a SET {components H}}":         "SEQUENCE {a SET {components H}}",
	} {
		y, e := tags.WithComponents(s, typeOf(t, text))
		wantResult(t, text, y, e, typeOf(t, want), api.OK)
	}
}

// P3.5: the errors of WithComponents behind those of the type (TestTypeFaults), in their order.
func TestComponentFaults(t *testing.T) {
	s := schemaOf(t, componentTypes)
	for text, want := range map[string]api.Errno{
		"NULL": api.ErrKind, "A": api.ErrKind, "SEQUENCE OF NULL": api.ErrKind, "CHOICE {components A}": api.ErrKind, "ENUMERATED {components (1)}": api.ErrKind, "ANY": api.ErrKind,
		// following the reference
		"SEQUENCE {components L}": api.OK, "SEQUENCE {components N}": api.ErrLarge, "SET {components N}": api.ErrLarge, "SEQUENCE {components A (1)}": api.ErrKind, "SET {components A (1)}": api.ErrKind,
		// another kind
		"SET {components A}": api.ErrType, "SET {components B}": api.ErrType, "SEQUENCE {components G}": api.ErrType, "SEQUENCE {components O}": api.ErrType, "SEQUENCE {components Q}": api.ErrType,
		// circles
		"SEQUENCE {components I}": api.ErrLoop, "SEQUENCE {a NULL, components I, ..., b NULL}": api.ErrLoop, "SEQUENCE {components K}": api.ErrLarge, "SEQUENCE {..., components I}": api.ErrLoop,
		// the result
		"SEQUENCE {a NULL, components A}": api.ErrDouble, "SEQUENCE {components A, ..., b NULL}": api.ErrDouble, "SEQUENCE {..., [[components E]], [[a NULL]]}": api.ErrOrder,
	} {
		y, e := tags.WithComponents(s, typeOf(t, text))
		wantFault(t, text, outcome{[]any{y}, e}, want)
	}
}

// recordOf returns the text of a record with so many fields from a number on, and further ones.
func recordOf(from, n int, more ...string) string {
	for i := range n {
		more = append(more, fmt.Sprintf("f%d NULL", from+i))
	}
	return "SEQUENCE {" + strings.Join(more, ", ") + "}"
}

// P3.5: at most MaxFields fields, also on the way to the result.
func TestMostComponents(t *testing.T) {
	s := schemaOf(t, "E ::= SEQUENCE {} T ::= "+recordOf(0, 10)+" U ::= "+recordOf(10, 6, "components E")+" V ::= "+recordOf(0, 16))
	for text, want := range map[string]string{
		recordOf(10, 6, "components T"):  recordOf(0, 16),
		recordOf(10, 7, "components T"):  "",
		recordOf(20, 10, "components U"): "",
		"SEQUENCE {components V}":        recordOf(0, 16),
		recordOf(20, 1, "components V"):  "",
		recordOf(0, 16):                  recordOf(0, 16),
	} {
		y, e := tags.WithComponents(s, typeOf(t, text))
		if want == "" {
			wantFault(t, text, outcome{[]any{y}, e}, api.ErrLarge)
			continue
		}
		wantResult(t, text, y, e, typeOf(t, want), api.OK)
	}
	y, e := tags.WithComponents(s, typeOf(t, recordOf(20, 9, "components U")))
	wantResult(t, "16 fields on the way", y, e, typeOf(t, strings.Replace(recordOf(10, 6)+recordOf(20, 9), "}SEQUENCE {", ", ", 1)), api.OK)
}

// P3.5: MaxTypes types may be put in, each behind another one.
func TestComponentChains(t *testing.T) {
	link := func(next api.Type) api.Type {
		y := fields(api.TypeRecord, next)
		y.Fields[0].Name = "components"
		return y
	}
	s := chain(api.MaxTypes, link, fields(api.TypeRecord, kind(api.TypeNull)))
	y, e := tags.WithComponents(s, link(ref("T00")))
	wantResult(t, "24 types", y, e, fields(api.TypeRecord, kind(api.TypeNull)), api.OK)
	s = chain(api.MaxTypes, link, link(ref("T00")))
	y, e = tags.WithComponents(s, link(ref("T00")))
	wantFault(t, "a circle of 24 types", outcome{[]any{y}, e}, api.ErrLoop)
	// The 25th type that would be put in is the first one again, with which there would be too many fields, too.
	s[0].Type = typeOf(t, recordOf(0, 9, "components T01"))
	y, e = tags.WithComponents(s, link(ref("T00")))
	wantFault(t, "a circle of 24 types with fields", outcome{[]any{y}, e}, api.ErrLoop)
	y, e = tags.WithComponents(s, link(ref("T01")))
	wantFault(t, "a circle of 24 types that is entered behind the fields", outcome{[]any{y}, e}, api.ErrLoop)
}

// P3.5: the result may have MaxTypeNodes types within it.
func TestGreatComponents(t *testing.T) {
	s := one("T", wide(40))
	for nodes, want := range map[int]api.Errno{19: api.OK, 20: api.OK, 21: api.ErrLarge} {
		y := fields(api.TypeRecord, wide(nodes), ref("T"))
		y.Fields[1].Name = "components"
		y, e := tags.WithComponents(s, y)
		wantFault(t, fmt.Sprintf("%d types", nodes), outcome{[]any{y}, e}, want)
	}
}

// P3.5: pairs as texts.
func TestFormatPairs(t *testing.T) {
	many := make([]api.TagPair, api.MaxTagPairs+1)
	for _, x := range []struct {
		l    []api.TagPair
		text string
		want api.Errno
	}{
		{nil, "", api.OK},
		{[]api.TagPair{{Class: api.ClassContext, Number: 5}}, "C5", api.OK},
		{[]api.TagPair{{}, {Class: api.ClassApplication, Number: 10}, {Class: api.ClassContext, Number: 7}, {Class: api.ClassPrivate, Number: api.MaxTag}, {Number: 2}, {Number: 2}}, "U0 A10 C7 P100000 U2 U2", api.OK},
		{many[1:], strings.Repeat("U0 ", api.MaxTagPairs-1) + "U0", api.OK},
		{many, "", api.ErrLarge},
		{append(many, api.TagPair{Class: -1}), "", api.ErrLarge},
		{[]api.TagPair{{Class: -1}}, "", api.ErrRange},
		{[]api.TagPair{{Number: 1}, {Class: api.Classes}}, "", api.ErrRange},
		{[]api.TagPair{{Number: -1}}, "", api.ErrRange},
		{[]api.TagPair{{Number: api.MaxTag + 1}, {Number: 1}}, "", api.ErrRange},
	} {
		text, e := tags.FormatPairs(x.l)
		wantResult(t, "FormatPairs", text, e, x.text, x.want)
	}
}
