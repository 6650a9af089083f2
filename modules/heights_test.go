package modules_test

import (
	"fmt"
	"strings"
	"testing"

	"examiner/api"
	"examiner/modules"
)

// heightTypes are types that refer to one another. X and its like have no height.
var heightTypes = []string{
	"A ::= SEQUENCE {a NULL}",
	"B ::= SEQUENCE {a A, b A OPTIONAL}",
	"C ::= CHOICE {c C, b B, n A}",
	"L ::= CHOICE {n NULL, c SEQUENCE {h INTEGER, t L}}",
	"O ::= SEQUENCE {a O OPTIONAL}",
	"X ::= SEQUENCE {a X}",
	"X1 ::= X1",
	"X2 ::= X3",
	"X3 ::= [1] EXPLICIT X2",
	"X4 ::= CHOICE {a X4, b X}",
	"X5 ::= SET (SIZE (1..3)) OF X5",
	"Y ::= [1] [2] [3] Z",
	"Z ::= [4] [5] [6] SET {a NULL}",
}

// noHeight is what a type has that has no value.
const noHeight = 0

// P6.3: heights.
func TestHeights(t *testing.T) {
	s := schemaOf(t, heightTypes...)
	for text, want := range map[string]int{
		"NULL": 1, "BOOLEAN": 1, "INTEGER": 1, "INTEGER (5 EXCEPT 5)": 1, "ENUMERATED {a (1)}": 1, "BIT STRING": 1, "OCTET STRING": 1, "IA5String": 1, "REAL": 1,
		"OBJECT IDENTIFIER": 2, "ANY": 2, "[1] [2] NULL": 1,
		// records and sets
		"SEQUENCE {}": 1, "SET {...}": 1, "SEQUENCE {a NULL}": 2, "SET {a NULL, b ANY, c NULL}": 3, "SEQUENCE {a ANY OPTIONAL}": 1, "SEQUENCE {a A DEFAULT 5, b NULL}": 2,
		"SEQUENCE {a NULL, ..., b B}": 2, "SEQUENCE {..., b B}": 1, "SET {a SET {a SEQUENCE {}, b ANY}}": 4, "SEQUENCE {a X OPTIONAL, ..., b X}": 1, "SET {a NULL, b X}": noHeight,
		// lists
		"SEQUENCE OF NULL": 1, "SET OF X": 1, "SEQUENCE (SIZE (0)) OF X": 1, "SEQUENCE (SIZE (1..5)) OF ANY": 3, "SET (SIZE (5 | 3)) OF NULL": 2, "SET (SIZE (2..3)) OF X": noHeight,
		"SEQUENCE (SIZE (2 EXCEPT 2)) OF NULL": noHeight, "SEQUENCE (SIZE (1), ..., SIZE (0)) OF NULL": 1, "SET (SIZE (1 | 0)) OF B": 1, "SET (SIZE (1)) OF SEQUENCE (SIZE (1)) OF SET OF NULL": 3,
		// unions
		"CHOICE {a NULL}": 2, "CHOICE {a ANY, b NULL, c B}": 2, "CHOICE {a B, b A}": 3, "CHOICE {a B, ..., b NULL}": 2, "CHOICE {a X, b B}": 4, "CHOICE {a X, b X1}": noHeight,
		// references
		"A": 2, "B": 3, "C": 3, "L": 2, "O": 1, "[1] C": 3, "SEQUENCE {l L, o O}": 3, "X": noHeight, "X1": noHeight, "X2": noHeight, "X3": noHeight, "X4": noHeight, "X5": noHeight, "Y": 2, "[7] Y": 2,
	} {
		height, e := modules.HeightOf(s, typeOf(t, text))
		wantE := api.OK
		if want == noHeight {
			wantE = api.ErrLoop
		}
		wantResult(t, text, height, e, want, wantE)
	}
}

// P6.3: heights above MaxDepth, of which there are no least values.
func TestGreatHeights(t *testing.T) {
	var lines []string
	for i := range api.MaxTypes {
		lines = append(lines, fmt.Sprintf("T%02d ::= SEQUENCE {a SET {b CHOICE {c T%02d}}, d ANY}", i, i+1))
	}
	lines[api.MaxTypes-1] = "T23 ::= NULL"
	s := schemaOf(t, lines...)
	for i := range api.MaxTypes {
		height, e := modules.HeightOf(s, ref(fmt.Sprintf("T%02d", i)))
		wantResult(t, "a great height", height, e, 3*(api.MaxTypes-1-i)+1, api.OK)
	}
	for text, want := range map[string]api.Errno{"SEQUENCE {a T21}": api.OK, "SEQUENCE {a SEQUENCE {a T21}}": api.ErrLarge, "T22": api.OK, "T21": api.OK, "T20": api.ErrLarge, "T00": api.ErrLarge} {
		_, e := modules.LeastValue(s, typeOf(t, text))
		wantResult(t, text, 0, e, 0, want)
	}
}

// P6.3: least values.
func TestLeastValues(t *testing.T) {
	s := schemaOf(t, heightTypes...)
	null := api.Value{}
	octets := api.Value{Kind: api.ValueOpen, Items: []api.Value{{Kind: api.ValueOctets}}}
	for _, x := range []struct {
		text string
		want api.Value
	}{
		{"NULL", null},
		{"BOOLEAN", api.Value{Kind: api.ValueBool}},
		{"INTEGER", number(0)},
		{"INTEGER (-5..-3 | 4)", number(-3)},
		{"ENUMERATED {a (5), b (-3), c (4), ..., d (-9)}", api.Value{Kind: api.ValueEnum, S: "b"}},
		{"ENUMERATED {a (5)}", api.Value{Kind: api.ValueEnum, S: "a"}},
		{"BIT STRING", api.Value{Kind: api.ValueBits}},
		{"BIT STRING (SIZE (2) EXCEPT '00'B)", api.Value{Kind: api.ValueBits, S: "01"}},
		{"OCTET STRING (SIZE (2))", api.Value{Kind: api.ValueOctets, S: "\x00\x00"}},
		{"PrintableString (SIZE (1))", api.Value{Kind: api.ValueChars, S: " "}},
		{"OBJECT IDENTIFIER", api.Value{Kind: api.ValueOid, Items: []api.Value{number(0), number(0)}}},
		{"REAL", api.Value{Kind: api.ValueReal}},
		{"ANY", octets},
		{"SEQUENCE {}", record("")},
		{"SET {a NULL, b INTEGER OPTIONAL, c BOOLEAN, d INTEGER DEFAULT 5, ..., e NULL}", record("a c", null, api.Value{Kind: api.ValueBool})},
		{"SEQUENCE {b NULL, a NULL}", record("b a", null, null)},
		{"SEQUENCE OF NULL", list()},
		{"SET OF X", bag()},
		{"SEQUENCE (SIZE (2 | 3)) OF INTEGER (7)", list(number(7), number(7))},
		{"SET (SIZE (1)) OF ANY", bag(octets)},
		{"CHOICE {a ANY, b NULL, c INTEGER}", union("b", null)},
		{"CHOICE {a ANY, ..., c INTEGER}", union("c", number(0))},
		{"CHOICE {a X, b SEQUENCE {a ANY}, c B}", union("b", record("a", octets))},
		{"A", record("a", null)},
		{"[1] B", record("a", record("a", null))},
		{"C", union("n", record("a", null))},
		{"L", union("n", null)},
		{"O", record("")},
		{"[7] Y", record("a", null)},
		{"SEQUENCE {a L, b SEQUENCE (SIZE (2)) OF B}", record("a b", union("n", null), list(record("a", record("a", null)), record("a", record("a", null))))},
	} {
		v, e := modules.LeastValue(s, typeOf(t, x.text))
		wantResult(t, x.text, v, e, x.want, api.OK)
	}
}

// P6.3: the errors of least values, in their order.
func TestLeastValueFaults(t *testing.T) {
	s := append(schemaOf(t, "D ::= SEQUENCE {d E}", "E ::= SEQUENCE {d F}", "F ::= SET {a G}", "G ::= SET {a H}", "H ::= SET {a I}", "I ::= SET {a J}", "J ::= SET {a NULL}", "N ::= INTEGER (5 EXCEPT 5)", "N2 ::= N"),
		schemaOf(t, "T ::= SEQUENCE (SIZE (11)) OF SEQUENCE (SIZE (10)) OF NULL", "X ::= SET {a X}")...)
	for text, want := range map[string]api.Errno{
		"X": api.ErrLoop, "SEQUENCE {n N, x X}": api.ErrLoop, "SEQUENCE {n N, d SET {e SET {d D}}}": api.ErrLarge, "D": api.OK, "SEQUENCE {d D}": api.ErrLarge,
		// constraints that permit nothing, where a value must be
		"N": api.ErrNone, "N2": api.ErrNone, "SEQUENCE {a NULL, b SET {c N2}}": api.ErrNone, "SEQUENCE {a N OPTIONAL, ..., b N}": api.OK, "CHOICE {a N, b NULL}": api.ErrNone, "CHOICE {b NULL, a N}": api.OK,
		"SEQUENCE OF N": api.OK, "SET (SIZE (1)) OF N": api.ErrNone, "CHOICE {a SET {b N}, c SEQUENCE {d NULL}, e NULL}": api.OK, "SEQUENCE {a INTEGER (3), b IA5String (\"a\" ^ \"b\")}": api.ErrNone,
		"SEQUENCE (SIZE (1 EXCEPT 1)) OF NULL": api.ErrLoop, "SEQUENCE {a NULL, b N DEFAULT 5}": api.OK,
		// too many values
		"SEQUENCE (SIZE (40)) OF NULL": api.OK, "SEQUENCE {a SEQUENCE (SIZE (40)) OF NULL, b SEQUENCE (SIZE (40)) OF NULL, c SEQUENCE (SIZE (36)) OF NULL}": api.OK,
		"SEQUENCE {a SEQUENCE (SIZE (40)) OF NULL, b SEQUENCE (SIZE (40)) OF NULL, c SEQUENCE (SIZE (37)) OF NULL}": api.ErrLarge,
		"SET (SIZE (39)) OF ANY": api.OK, "SET (SIZE (40)) OF ANY": api.OK, "SET (SIZE (40)) OF SEQUENCE {a NULL, b NULL}": api.ErrLarge, "SET (SIZE (29)) OF SEQUENCE {a ANY, b NULL}": api.OK, "SET (SIZE (30)) OF SEQUENCE {a ANY, b NULL}": api.ErrLarge,
		"SEQUENCE {a SET (SIZE (39)) OF ANY, b NULL}": api.OK, "SEQUENCE {a SET (SIZE (39)) OF OBJECT IDENTIFIER, b NULL}": api.OK, "SET (SIZE (40)) OF OBJECT IDENTIFIER": api.ErrLarge,
		"T": api.ErrLarge, "SEQUENCE {a T, b T, c N}": api.ErrNone, "SEQUENCE {a T, b X}": api.ErrLoop,
		"SEQUENCE (SIZE (40)) OF SEQUENCE (SIZE (40)) OF SEQUENCE (SIZE (40)) OF SEQUENCE (SIZE (40)) OF SEQUENCE (SIZE (40)) OF SEQUENCE (SIZE (40)) OF SEQUENCE (SIZE (40)) OF NULL": api.ErrLarge,
	} {
		v, e := modules.LeastValue(s, typeOf(t, text))
		if e != want || e != api.OK && !alike(v, api.Value{}) {
			t.Errorf("%s: error %d, want %d", text, e, want)
		}
	}
}

// R2: types that are met far too often are soon known, also if the last one permits nothing.
func TestLeastValuesOfManyParts(t *testing.T) {
	wide := func(name string) string {
		var fields []string
		for i := range api.MaxFields {
			fields = append(fields, fmt.Sprint("f", i, " ", name))
		}
		return "SEQUENCE {" + strings.Join(fields, ", ") + "}"
	}
	lines := []string{"T7 ::= SEQUENCE {}"}
	for i := range 7 {
		lines = append(lines, fmt.Sprint("T", i, " ::= ", wide(fmt.Sprint("T", i+1))))
	}
	s := schemaOf(t, lines...)
	v, e := modules.LeastValue(s, ref("T0"))
	wantResult(t, "16 fields in 16 fields in ..", v, e, api.Value{}, api.ErrLarge)
	s[0].Type.Fields[15].Type = typeOf(t, "INTEGER (1 EXCEPT 1)")
	v, e = modules.LeastValue(s, ref("T0"))
	wantResult(t, "16 fields in 16 fields in .., and nothing", v, e, api.Value{}, api.ErrNone)
}

// P6.3, P6.4: the errors of the schema and the type.
func TestTypeFaults(t *testing.T) {
	s := schemaOf(t, "A ::= NULL", "B ::= B")
	wrong := append(schemaOf(t, "A ::= NULL"), api.Named{Name: "B", Type: ref("C")})
	twice := api.Type{Kind: api.TypeRecord, Fields: []api.Field{{Name: "a"}, {Name: "a"}}, Root: 2}
	use := api.Type{Kind: api.TypeRef, Name: "A", Fields: []api.Field{{}}}
	useInWrong := use
	useInWrong.Tags = make([]api.Tag, 4)
	limited := ref("A")
	limited.Limits = api.Limits{{}}
	inner := func(l ...api.Type) api.Type {
		y := api.Type{Kind: api.TypeSet, Root: len(l)}
		for i, of := range l {
			y.Fields = append(y.Fields, api.Field{Name: string(rune('a' + i)), Type: of})
		}
		return y
	}
	for _, x := range []struct {
		s    api.Schema
		y    api.Type
		want api.Errno
	}{
		{s, ref("A"), api.OK},
		{wrong, twice, api.ErrMissing},
		{wrong, ref("A"), api.ErrMissing},
		{s, inner(ref("X"), twice), api.ErrDouble},
		{s, inner(twice, ref("X")), api.ErrDouble},
		{s, inner(use, ref("X")), api.ErrForm},
		{s, useInWrong, api.ErrLarge},
		{s, inner(ref("X"), use), api.ErrMissing},
		{s, inner(typeOf(t, "INTEGER (2..1)"), use), api.ErrRange},
		{s, inner(use, typeOf(t, "INTEGER (2..1)")), api.ErrForm},
		{s, inner(inner(use), limited), api.ErrForm},
		{s, limited, api.ErrKind},
		{s, ref("X"), api.ErrMissing},
		{s, typeOf(t, "SET OF X"), api.ErrMissing},
		{s, inner(inner(ref("X")), limited), api.ErrMissing},
	} {
		_, e := modules.Unfolded(x.s, x.y)
		wantResult(t, "Unfolded "+short(x.y), 0, e, 0, x.want)
		_, e = modules.HeightOf(x.s, x.y)
		wantResult(t, "HeightOf "+short(x.y), 0, e, 0, x.want)
		_, e = modules.LeastValue(x.s, x.y)
		wantResult(t, "LeastValue "+short(x.y), 0, e, 0, x.want)
	}
	uses, e := modules.UsesOf(wrong)
	wantResult(t, "UsesOf", uses, e, []api.TypeUses{}, api.ErrMissing)
}
