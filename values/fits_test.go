package values_test

import (
	"fmt"
	"testing"

	"examiner/api"
	"examiner/limits"
	"examiner/values"
)

func wantFit(t *testing.T, what string, s api.Schema, y api.Type, v api.Value, place []int, e api.Errno) {
	t.Helper()
	got, gotE := values.Fits(s, y, v)
	wantResult(t, "Fits "+what, got, gotE, place, e)
}

// A fitting is a value of a type as texts, and the place and the error of its first fault.
type fitting struct {
	typ, value string
	place      []int
	e          api.Errno
}

func wantFittings(t *testing.T, s api.Schema, l []fitting) {
	t.Helper()
	for _, x := range l {
		wantFit(t, x.typ+" "+x.value, s, typeOf(t, x.typ), plainOf(t, x.value), x.place, x.e)
	}
}

// P5.2: a value has the kind of its type.
func TestKinds(t *testing.T) {
	for i, y := range someTypes() {
		for j, v := range someValues() {
			want := api.ErrType
			if i <= 9 && i == j || i > 9 && i == j+1 { // records and sets, the types 9 and 10, have values of one kind
				want = api.OK
			}
			wantFit(t, fmt.Sprintf("type %d, value %d", i, j), nil, y, v, nil, want)
		}
	}
}

// P5.2: characters are those of the string type.
func TestCharacters(t *testing.T) {
	for _, name := range []string{api.Numeric, api.Printable, api.Visible, api.Ia5} {
		spans, _ := limits.CharactersOf(name)
		for c := range 128 {
			want := api.ErrType
			for _, s := range spans {
				if s.Low <= c && c <= s.High {
					want = api.OK
				}
			}
			v := chars("1" + string(rune(c)))
			wantFit(t, fmt.Sprint(name, c), nil, api.Type{Kind: api.TypeChars, Name: name}, v, nil, want)
		}
	}
	wantFit(t, "a wrong character, also too long", nil, typeOf(t, "NumericString (SIZE (0))"), chars("a"), nil, api.ErrType)
}

// P5.2: constraints are those of the value itself.
func TestConstraints(t *testing.T) {
	wantFittings(t, nil, []fitting{
		{"INTEGER (0..7)", "7", nil, api.OK},
		{"INTEGER (0..7)", "8", nil, api.ErrBound},
		{"INTEGER (1..5, ..., 8)", "8", nil, api.OK},
		{"INTEGER (1..5, ..., 8)", "7", nil, api.ErrBound},
		{"BIT STRING (SIZE (2))", "'01'B", nil, api.OK},
		{"BIT STRING (SIZE (2))", "'011'B", nil, api.ErrBound},
		{"OCTET STRING ('00'H)", "'01'H", nil, api.ErrBound},
		{"IA5String (FROM (\"a\"..\"c\"))", "\"ad\"", nil, api.ErrBound},
		{"SEQUENCE (SIZE (1)) OF INTEGER (0)", "{0}", nil, api.OK},
		{"SEQUENCE (SIZE (1)) OF INTEGER (0)", "{1}", []int{0}, api.ErrBound},
		{"SEQUENCE (SIZE (1)) OF INTEGER (0)", "{1, 0}", nil, api.ErrBound},
	})
	wantFit(t, "a bag of two", nil, typeOf(t, "SET (SIZE (2)) OF NULL"), bag(api.Value{}, api.Value{}), nil, api.OK)
	wantFit(t, "a bag of one", nil, typeOf(t, "SET (SIZE (2)) OF NULL"), bag(api.Value{}), nil, api.ErrBound)
}

// P5.2: names of enumerations, unions and records are fields.
func TestNames(t *testing.T) {
	wantFittings(t, nil, []fitting{
		{"ENUMERATED {a (0), ..., b (1)}", "a", nil, api.OK},
		{"ENUMERATED {a (0), ..., b (1)}", "b", nil, api.OK},
		{"ENUMERATED {a (0), ..., b (1)}", "c", nil, api.ErrMissing},
		{"CHOICE {a NULL, ..., b NULL}", "b: NULL", nil, api.OK},
		{"CHOICE {a NULL, ..., b NULL}", "c: NULL", nil, api.ErrMissing},
		{"CHOICE {a NULL, b BOOLEAN}", "b: NULL", []int{0}, api.ErrType},
		{"SEQUENCE {a NULL, b NULL OPTIONAL}", "{b NULL, a NULL}", nil, api.OK},
		{"SEQUENCE {a NULL, b NULL OPTIONAL}", "{a NULL, c NULL}", nil, api.ErrMissing},
		{"SET {a NULL, b NULL OPTIONAL}", "{a NULL, c NULL}", nil, api.ErrMissing},
		{"SEQUENCE {a NULL}", "{b TRUE}", nil, api.ErrMissing},
	})
}

// P5.2: fields that must be there; among the additions only if another one, of the group or behind it, is there.
func TestMissingFields(t *testing.T) {
	const additions = "SEQUENCE {a NULL OPTIONAL, ..., b NULL, [[c NULL, d NULL DEFAULT NULL, e NULL OPTIONAL]], f NULL OPTIONAL, [[g NULL, h NULL OPTIONAL]], i NULL OPTIONAL, j NULL}"
	wantFittings(t, nil, []fitting{
		{"SEQUENCE {a INTEGER, ..., b INTEGER}", "{a 1}", nil, api.OK},
		{"SEQUENCE {a INTEGER, ..., b INTEGER, c NULL}", "{a 1, c NULL}", nil, api.ErrUnbound},
		{"SEQUENCE {a INTEGER, ..., b INTEGER, c NULL}", "{a 1, b 2}", nil, api.OK},
		{"SEQUENCE {a INTEGER, b NULL OPTIONAL}", "{b NULL}", nil, api.ErrUnbound},
		{"SET {a INTEGER, ..., b INTEGER}", "{b 5}", nil, api.ErrUnbound},
		{"SEQUENCE {a INTEGER OPTIONAL, b INTEGER DEFAULT 5, c INTEGER}", "{c 5}", nil, api.OK},
		{additions, "{a NULL}", nil, api.OK},
		{additions, "{b NULL}", nil, api.OK},
		{additions, "{c NULL}", nil, api.ErrUnbound},                                     // b
		{additions, "{b NULL, c NULL}", nil, api.OK},                                     // c alone of its group
		{additions, "{b NULL, d NULL}", nil, api.ErrUnbound},                             // c, of the group
		{additions, "{b NULL, e NULL}", nil, api.ErrUnbound},                             // c, of the group
		{additions, "{b NULL, c NULL, e NULL}", nil, api.OK},                             // all of the group that must be
		{additions, "{b NULL, f NULL}", nil, api.ErrUnbound},                             // c, before f
		{additions, "{b NULL, c NULL, f NULL}", nil, api.OK},                             // g is behind
		{additions, "{b NULL, c NULL, h NULL}", nil, api.ErrUnbound},                     // g, of the group
		{additions, "{h NULL, g NULL, c NULL, b NULL}", nil, api.OK},                     // in any order
		{additions, "{b NULL, c NULL, i NULL}", nil, api.ErrUnbound},                     // g, before i
		{additions, "{b NULL, c NULL, g NULL, i NULL}", nil, api.OK},                     // j is behind
		{additions, "{b NULL, c NULL, g NULL, j NULL, a NULL}", nil, api.OK},             // all
		{additions, "{c NULL, g NULL, j NULL}", nil, api.ErrUnbound},                     // b
		{"SEQUENCE {..., [[a NULL OPTIONAL, b NULL]]}", "{a NULL}", nil, api.ErrUnbound}, // b, behind
		{"SEQUENCE {..., [[a NULL]], [[b NULL]]}", "{b NULL}", nil, api.ErrUnbound},
		{"SEQUENCE {..., a NULL OPTIONAL, b NULL}", "{a NULL}", nil, api.OK},
	})
	empty := record("")
	wantFit(t, "a record without fields", nil, typeOf(t, "SEQUENCE {}"), empty, nil, api.OK)
	wantFit(t, "a record that lacks its only field", nil, typeOf(t, "SET {a NULL}"), empty, nil, api.ErrUnbound)
}

// P5.2: open values, by the types of the schema.
func TestOpenValues(t *testing.T) {
	s := schemaOf(t, "A ::= INTEGER (0..7)", "B ::= SEQUENCE OF C", "C ::= A")
	y := api.Type{Kind: api.TypeOpen}
	wantFit(t, "octets", s, y, open("", octets("\x01")), nil, api.OK)
	wantFit(t, "A", s, y, open("A", number(7)), nil, api.OK)
	wantFit(t, "A", s, y, open("A", number(8)), []int{0}, api.ErrBound)
	wantFit(t, "B", s, y, open("B", list(number(1), number(9))), []int{0, 1}, api.ErrBound)
	wantFit(t, "no type", s, y, open("D", list()), nil, api.ErrMissing)
	wantFit(t, "an open one in one", s, listType(y), list(open("A", number(1)), open("a", number(1))), []int{1}, api.ErrMissing)
}

// P5.2: references are followed at each place, or their error is that of the place.
func TestReferences(t *testing.T) {
	s := append(schemaOf(t, "B ::= [5] SEQUENCE OF C", "C ::= INTEGER (0..7)"), circles(t)...)
	wantFit(t, "a list", s, ref("B"), list(number(7)), nil, api.OK)
	wantFit(t, "a list of 8", s, ref("B"), list(number(7), number(8)), []int{1}, api.ErrBound)
	for name, e := range map[string]api.Errno{"L": api.ErrLoop, "M": api.ErrLoop, "X": api.ErrLarge, "Y": api.OK} {
		wantFit(t, "a value of "+name, s, ref(name), api.Value{}, nil, e)
		place := []int{0, 1}
		if e == api.OK {
			place = nil
		}
		y := typeOf(t, "CHOICE {a SEQUENCE {b NULL, c "+name+" OPTIONAL}}")
		wantFit(t, "a field that leads to "+name, s, y, union("a", record("b c", api.Value{}, api.Value{})), place, e)
		wantFit(t, "no such field", s, y, union("a", record("b", api.Value{})), nil, api.OK)
		wantFit(t, "an open value of "+name, s, api.Type{Kind: api.TypeOpen}, open(name, api.Value{}), place[:min(1, len(place))], e)
	}
	wantFit(t, "six tags, and another one", s, typeOf(t, "[7] Y"), api.Value{}, nil, api.ErrLarge)
	wantFit(t, "lists of both", s, typeOf(t, "SEQUENCE {a Y, b [7] Y}"), record("a b", api.Value{}, api.Value{}), []int{1}, api.ErrLarge)
	wantFit(t, "the kind of a type with six tags", s, ref("Y"), number(5), nil, api.ErrType)
}

// P5.2: the first fault is that of the value itself, then that of its items one by one, with all that is within each.
func TestFirstFault(t *testing.T) {
	wantFittings(t, nil, []fitting{
		{"SEQUENCE {a SEQUENCE OF INTEGER (0..7), b BOOLEAN}", "{a {1, 8}, b 3}", []int{0, 1}, api.ErrBound},
		{"SEQUENCE {a SEQUENCE OF INTEGER (0..7), b BOOLEAN}", "{b 3, a {1, 8}}", []int{0}, api.ErrType},
		{"SEQUENCE {a SEQUENCE OF INTEGER (0..7), b BOOLEAN}", "{a {1, 8}}", nil, api.ErrUnbound},
		{"SEQUENCE {a SEQUENCE OF INTEGER (0..7), b BOOLEAN}", "{a {1, 8}, c NULL}", nil, api.ErrMissing},
		{"SEQUENCE (SIZE (1)) OF CHOICE {a NULL}", "{b: 1, a: 2}", nil, api.ErrBound},
		{"SEQUENCE OF CHOICE {a NULL}", "{a: NULL, a: 2, b: 1}", []int{1, 0}, api.ErrType},
	})
}

// The examples and edge cases of the chapter.
func TestFittingExamples(t *testing.T) {
	const y = "SEQUENCE {a INTEGER (0..7), b BOOLEAN DEFAULT TRUE}"
	wantFittings(t, nil, []fitting{
		{y, "{a 3}", nil, api.OK},
		{y, "{a 9}", []int{0}, api.ErrBound},
		{y, "{b TRUE}", nil, api.ErrUnbound},
	})
	wantFit(t, "a reference that comes back to itself", schemaOf(t, "T ::= T"), typeOf(t, "SEQUENCE OF T"), list(api.Value{}), []int{0}, api.ErrLoop)
}

func wantTypeAt(t *testing.T, what string, s api.Schema, y api.Type, v api.Value, place []int, want api.Type, e api.Errno) {
	t.Helper()
	got, gotE := values.TypeAt(s, y, v, place)
	wantResult(t, fmt.Sprintf("TypeAt of %s at %v", what, place), got, gotE, want, e)
}

// P5.2: the type at a place, references followed.
func TestTypesAtPlaces(t *testing.T) {
	s := schemaOf(t, "A ::= [1] B", "B ::= [2] [3] INTEGER (0..7)", "L ::= L", "S ::= SEQUENCE {a [4] A, l L OPTIONAL, s SET OF [5] A}")
	v := record("s a", bag(number(1), number(2)), number(3))
	tagged := func(text string, tags ...int) api.Type {
		y := typeOf(t, text)
		for _, n := range tags {
			y.Tags = append(y.Tags, api.Tag{Class: api.ClassContext, Number: n})
		}
		return y
	}
	record := s[3].Type
	wantTypeAt(t, "a record", s, ref("S"), v, nil, record, api.OK)
	wantTypeAt(t, "a record", s, ref("S"), v, []int{0}, record.Fields[2].Type, api.OK)
	wantTypeAt(t, "a record", s, ref("S"), v, []int{0, 1}, tagged("INTEGER (0..7)", 5, 1, 2, 3), api.OK)
	wantTypeAt(t, "a record", s, ref("S"), v, []int{1}, tagged("INTEGER (0..7)", 4, 1, 2, 3), api.OK)
	for _, place := range [][]int{{2}, {-1}, {0, 2}, {0, -1}, {1, 0}, {0, 0, 0}} {
		wantTypeAt(t, "a record", s, ref("S"), v, place, api.Type{}, api.ErrMissing)
	}
	y := typeOf(t, "CHOICE {a NULL, b BOOLEAN}")
	wantTypeAt(t, "a union", s, y, union("b", api.Value{Kind: api.ValueBool}), []int{0}, typeOf(t, "BOOLEAN"), api.OK)
	y = api.Type{Kind: api.TypeOpen}
	wantTypeAt(t, "an open value", s, y, open("B", number(5)), nil, y, api.OK)
	wantTypeAt(t, "an open value", s, y, open("B", number(5)), []int{0}, s[1].Type, api.OK)
	wantTypeAt(t, "octets", s, y, open("", octets("")), []int{0}, typeOf(t, "OCTET STRING"), api.OK)
	wantTypeAt(t, "an object identifier", s, typeOf(t, "OBJECT IDENTIFIER"), oid(1, 2), []int{1}, typeOf(t, "INTEGER"), api.OK)
	wantTypeAt(t, "an object identifier", s, typeOf(t, "OBJECT IDENTIFIER"), oid(1, 2), []int{2}, api.Type{}, api.ErrMissing)
	wantTypeAt(t, "what does not fit", s, ref("B"), number(8), []int{5}, api.Type{}, api.ErrBound)
	wantTypeAt(t, "what does not fit", s, ref("L"), number(8), nil, api.Type{}, api.ErrLoop)
}
