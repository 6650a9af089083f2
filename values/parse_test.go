package values_test

import (
	"fmt"
	"strings"
	"testing"

	"examiner/api"
	"examiner/values"
)

func wantRead(t *testing.T, s api.Schema, y api.Type, text string, want api.Value) {
	t.Helper()
	v, length, e := values.ParseValue(s, y, text)
	wantResult(t, fmt.Sprintf("ParseValue(%q)", text), v, e, want, api.OK)
	wantResult(t, fmt.Sprintf("length of %q", text), length, e, len(text), api.OK)
}

// wantUnread checks the place and the error of a text, which begins behind "!", if it has one, at which something is wrong.
func wantUnread(t *testing.T, s api.Schema, y api.Type, marked string, want api.Errno) {
	t.Helper()
	at := max(0, strings.Index(marked, "!"))
	text := strings.Replace(marked, "!", "", 1)
	v, got, e := values.ParseValue(s, y, text)
	wantResult(t, fmt.Sprintf("ParseValue(%q)", text), got, e, at, want)
	wantResult(t, fmt.Sprintf("value of %q", text), v, e, api.Value{}, want)
}

// P5.5: what the type says of a text, also where chapter 2 would read something else.
func TestReading(t *testing.T) {
	s := schemaOf(t, "A ::= SET OF INTEGER", "B ::= A")
	three := bag(number(1), number(3), number(3))
	for _, x := range []struct {
		typ, text string
		want      api.Value
	}{
		{"INTEGER", " - 5 -- five", number(-5)},
		{"INTEGER", "-0", number(0)},
		{"SET OF INTEGER", "{3, 1, 3}", three},
		{"B", "{3,1,3}", three},
		{"SET OF SET OF INTEGER", "{{2, 1}, {}, {3, 1, 3}}", bag(bag(), bag(number(1), number(2)), three)},
		{"SEQUENCE OF INTEGER", "{3, 1, 3}", list(number(3), number(1), number(3))},
		{"SEQUENCE OF INTEGER", "{ }", list()},
		{"SET OF INTEGER", "{ }", bag()},
		{"SEQUENCE {a NULL OPTIONAL}", "{ }", record("")},
		{"SEQUENCE {a INTEGER, b INTEGER}", "{b 1, a 2}", record("b a", number(1), number(2))},
		{"SET {mantissa INTEGER, base INTEGER, exponent INTEGER}", "{mantissa 2, base 2, exponent 0}", record("mantissa base exponent", number(2), number(2), number(0))},
		{"REAL", "{mantissa -3, base 2, exponent -1}", api.Value{Kind: api.ValueReal, N: -3, E: -1}},
		{"OBJECT IDENTIFIER", "{2 40}", oid(2, 40)},
		{"ENUMERATED {b (1)}", "b", enum("b")},
		{"SEQUENCE OF ENUMERATED {b (1)}", "{b}", list(enum("b"))},
		{"SEQUENCE OF ENUMERATED {b (1)}", "{b, b}", list(enum("b"), enum("b"))},
		{"BIT STRING", "''B", api.Value{Kind: api.ValueBits}},
		{"OCTET STRING", "'F'H", octets("\xf0")},
		{"VisibleString", "\"\"\"\"", chars("\"")},
		{"CHOICE {n NULL, l SEQUENCE OF INTEGER}", "l: {1, 2}", union("l", list(number(1), number(2)))},
	} {
		wantRead(t, s, typeOf(t, x.typ), x.text, x.want)
	}
	anything := api.Type{Kind: api.TypeOpen}
	wantRead(t, s, anything, "B : { 2 , 1 }", open("B", bag(number(1), number(2))))
	wantRead(t, s, anything, "'00'H", open("", octets("\x00")))
}

// P5.5: names count as they are, whatever their first letter.
func TestReadNames(t *testing.T) {
	s := api.Schema{{Name: "t"}}
	named := []api.Field{{Name: "A"}, {Name: "b", Number: 1}}
	y := api.Type{Kind: api.TypeEnum, Fields: named, Root: 2}
	wantRead(t, s, y, "A", enum("A"))
	named = []api.Field{{Name: "A"}, {Name: "b"}}
	y = api.Type{Kind: api.TypeRecord, Fields: named, Root: 2}
	wantRead(t, s, y, "{b NULL, A NULL}", record("b A", api.Value{}, api.Value{}))
	y.Kind = api.TypeUnion
	wantRead(t, s, y, "A: NULL", union("A", api.Value{}))
	wantRead(t, s, api.Type{Kind: api.TypeOpen}, "t: NULL", open("t", api.Value{}))
	y.Fields = []api.Field{{Name: "NULL"}, {Name: "a_b"}}
	wantUnread(t, s, y, "!NULL: NULL", api.ErrSyntax)
	wantUnread(t, s, y, "a!_b: NULL", api.ErrSyntax)
}

// P5.5: a token with which no value of the type begins cannot stand there; without a token ErrEnd.
func TestWrongTokens(t *testing.T) {
	s := schemaOf(t, "A ::= INTEGER (0..7)")
	starts := map[string]string{
		"NULL": "NULL", "BOOLEAN": "TRUE FALSE", "INTEGER": "5 -", "ENUMERATED {x (1)}": "x y X A", "BIT STRING": "'01'B", "OCTET STRING": "'01'H", "IA5String": "\"01\"",
		"OBJECT IDENTIFIER": "{", "REAL": "{", "SEQUENCE {x NULL}": "{", "SET {x NULL}": "{", "SEQUENCE OF NULL": "{", "SET OF NULL": "{", "CHOICE {x NULL}": "x", "A": "5 -", "anything": "'01'H A",
	}
	for text, fine := range starts {
		y := api.Type{Kind: api.TypeOpen}
		if text != "anything" {
			y = typeOf(t, text)
		}
		wantUnread(t, s, y, "!", api.ErrEnd)
		wantUnread(t, s, y, " -- nothing\n !", api.ErrEnd)
		for _, token := range strings.Fields("NULL TRUE FALSE 5 - x y X A '01'B '01'H \"01\" { } , : ( ; MIN SEQUENCE ::= . [[") {
			_, at, e := values.ParseValue(s, y, " "+token)
			begins := strings.Contains(" "+fine+" ", " "+token+" ")
			if begins != (at != 1 || e != api.ErrSyntax) {
				t.Errorf("%s read as %s: place %d, error %d", token, text, at, e)
			}
		}
	}
}

// P5.5: within values.
func TestWrongTokensWithin(t *testing.T) {
	s := schemaOf(t, "A ::= INTEGER (0..7)")
	for typ, texts := range map[string][]string{
		"INTEGER":                                {"5 !5", "- !", "- !- 5", "5!,"},
		"BOOLEAN":                                {"TRUE !TRUE"},
		"CHOICE {n NULL, l SEQUENCE OF INTEGER}": {"l: !5", "!m: NULL", "!M: NULL", "n !NULL", "n !", "n: !", "n: NULL !}", "l: {1, 2, !TRUE}"},
		"SEQUENCE OF INTEGER":                    {"{!", "{1 !", "{1, !", "{1 !2}", "{!,}", "{1, !}", "{1} !}", "{1, !{}}", "{1!:}", "{!a 1}"},
		"SET OF A":                               {"{1, !\"\"}", "{1, 8 !8"},
		"SEQUENCE {a INTEGER, b NULL OPTIONAL}":  {"{!", "{a !", "{a 5 !", "{a 5, !", "{!c 5}", "{!5}", "{a 5 !b NULL}", "{a 5, !}", "{a !NULL}", "{a 5, b !5}", "{a!: 5}", "{a 5, !c", "{!,}", "{a 5, !NULL}"},
		"SEQUENCE {a A}":                         {"{a -!", "{a !TRUE}"},
		"OBJECT IDENTIFIER":                      {"{!", "{1 2 !", "{1 !-2}", "{1!, 2}", "{!a}", "{1 2 !{3}}", "{1 2} !3"},
		"REAL":                                   {"{!}", "{mantissa !", "{mantissa 5!}", "{mantissa 5, !exponent 3}", "{mantissa 5, base !3, exponent 1}", "{mantissa 5, base !-2, exponent 1}", "{mantissa 5, base 2!}", "{mantissa 5, base 2, exponent 1!, x 1}", "{!base 2}", "{mantissa 5, base !10}", "{mantissa !TRUE}", "{mantissa 5, base 2, exponent 1!", "!5"},
	} {
		for _, text := range texts {
			want := api.ErrSyntax
			if strings.HasSuffix(text, "!") {
				want = api.ErrEnd
			}
			wantUnread(t, s, typeOf(t, typ), text, want)
		}
	}
	anything := api.Type{Kind: api.TypeOpen}
	for _, text := range []string{"!B: 5", "!a: 5", "A !5", "A: !TRUE", "!5", "!{", "!''B", "''H !''H", "A: 5 !5", "!NULL: NULL"} {
		wantUnread(t, s, anything, text, api.ErrSyntax)
	}
	wantUnread(t, s, anything, "A !", api.ErrEnd)
	wantUnread(t, s, anything, "A: !", api.ErrEnd)
}

// P5.5: the errors of TokensOf with their places come before all others of the text.
func TestWrongTexts(t *testing.T) {
	y := typeOf(t, "INTEGER")
	wantUnread(t, nil, y, "TRUE !\"", api.ErrOpen)
	wantUnread(t, nil, y, "TRUE !?", api.ErrSyntax)
	wantUnread(t, nil, y, "TRUE !\x00", api.ErrForm)
	wantUnread(t, nil, y, "TRUE !01", api.ErrSyntax)
	wantUnread(t, nil, y, "!1152921504606846977", api.ErrRange)
	wantUnread(t, nil, y, "!"+strings.Repeat(" ", api.MaxText+1), api.ErrLarge)
	wantUnread(t, nil, y, "!"+strings.Repeat("5 ", api.MaxTokens+1), api.ErrLarge)
	wantUnread(t, nil, y, "5 !"+strings.Repeat("5 ", api.MaxTokens-1), api.ErrSyntax)
	wantRead(t, nil, y, "- 1152921504606846976", number(-api.MaxInteger))
	wrong := typeOf(t, "A")
	wantUnread(t, nil, wrong, "\"", api.ErrMissing)
	wantUnread(t, schemaOf(t, "T ::= INTEGER (1..0)"), wrong, "\"", api.ErrRange)
}

// P5.5: when a text is read the errors of Fits come, without a place.
func TestReadButUnfit(t *testing.T) {
	s := schemaOf(t, "A ::= INTEGER (0..7)")
	for _, x := range []struct {
		typ, text string
		e         api.Errno
	}{
		{"A", " 8", api.ErrBound},
		{"ENUMERATED {a (0)}", "  b", api.ErrMissing},
		{"NumericString", " \"a\"", api.ErrType},
		{"SEQUENCE {a NULL}", " {}", api.ErrUnbound},
		{"SEQUENCE {a NULL}", " {a NULL, a NULL}", api.ErrDouble},
		{"SEQUENCE OF A", " {8, 8}", api.ErrBound},
		{"SEQUENCE OF NULL", " {NULL" + strings.Repeat(", NULL", api.MaxItems) + "}", api.ErrLarge},
		{"OBJECT IDENTIFIER", " {3 1}", api.ErrRange},
		{"OBJECT IDENTIFIER", " {1 40}", api.ErrRange},
		{"OBJECT IDENTIFIER", " {1}", api.ErrShape},
		{"OBJECT IDENTIFIER", " { }", api.ErrShape},
		{"OBJECT IDENTIFIER", " {1 1" + strings.Repeat(" 1", api.MaxItems) + "}", api.ErrLarge},
		{"REAL", " {mantissa 2, base 2, exponent 1}", api.ErrRange},
		{"REAL", " {mantissa 1, base 2, exponent 1001}", api.ErrRange},
	} {
		wantUnread(t, s, typeOf(t, x.typ), x.text, x.e)
		wantUnread(t, s, typeOf(t, x.typ), "!"+x.text, x.e)
	}
	zeros := "{0" + strings.Repeat(", 0", 39) + "}"
	wantUnread(t, s, typeOf(t, "SEQUENCE OF SEQUENCE OF A"), "{"+zeros+", "+zeros+", "+zeros+"}", api.ErrLarge)
}

// P5.5: values that are too deep are ErrLarge at the token, also those of an object identifier; without a token it is always ErrEnd.
func TestDeepTexts(t *testing.T) {
	s := schemaOf(t, "C ::= CHOICE {c C, i INTEGER, o OBJECT IDENTIFIER, r REAL, b BIT STRING}", "L ::= SEQUENCE OF L", "R ::= SEQUENCE {r R OPTIONAL, n NULL OPTIONAL}")
	open, closed := strings.Repeat("{", api.MaxDepth), strings.Repeat("}", api.MaxDepth)
	wantRead(t, s, ref("L"), open+closed, deepList(api.MaxDepth))
	for _, inner := range []string{"!{}", "!5", "!{", "!,"} {
		wantUnread(t, s, ref("L"), open+inner+closed, api.ErrLarge)
		wantUnread(t, s, ref("L"), open+inner, api.ErrLarge)
	}
	wantUnread(t, s, ref("L"), open+"!", api.ErrEnd)

	fields := strings.Repeat("{r ", api.MaxDepth-1)
	_, _, e := values.ParseValue(s, ref("R"), fields+"{}"+closed[1:])
	wantResult(t, "fields as deep as may be", 0, e, 0, api.OK)
	wantUnread(t, s, ref("R"), fields+"{r !{}}"+closed[1:], api.ErrLarge)
	wantUnread(t, s, ref("R"), fields+"{n !NULL}"+closed[1:], api.ErrLarge)
	wantUnread(t, s, ref("R"), fields+"{!5}"+closed[1:], api.ErrSyntax)
	wantUnread(t, s, ref("R"), fields+"{r !", api.ErrEnd)

	names := strings.Repeat("c: ", api.MaxDepth-2)
	for _, inner := range []string{"i: 5", "r: {mantissa 1, base 2, exponent 1}", "b: ''B"} {
		_, _, e := values.ParseValue(s, ref("C"), names+inner)
		wantResult(t, names+inner, 0, e, 0, api.OK)
	}
	_, _, e = values.ParseValue(s, ref("C"), names[3:]+"o: {1 2}")
	wantResult(t, "numbers as deep as may be", 0, e, 0, api.OK)
	wantUnread(t, s, ref("C"), names+"o: {!1 2}", api.ErrLarge)
	wantUnread(t, s, ref("C"), names+"o: {!", api.ErrEnd)
	wantUnread(t, s, ref("C"), names+"o: {!a}", api.ErrSyntax)
	wantUnread(t, s, ref("C"), names+"c: i: !5", api.ErrLarge)
	wantUnread(t, s, ref("C"), names+"c: i: !", api.ErrEnd)
}

// P5.5: an open value and what is in it are two values within one another, also without a name.
func TestDeepOpenTexts(t *testing.T) {
	s := schemaOf(t, "I ::= INTEGER", "L ::= SEQUENCE OF L")
	y := api.Type{Kind: api.TypeOpen}
	for range api.MaxDepth - 2 {
		y = listType(y)
	}
	open, closed := strings.Repeat("{", api.MaxDepth-2), strings.Repeat("}", api.MaxDepth-2)
	for _, text := range []string{"'00'H", "I: 5", "L: {}"} {
		_, _, e := values.ParseValue(s, y, open+text+closed)
		wantResult(t, text, 0, e, 0, api.OK)
	}
	wantUnread(t, s, y, open+"L: {!{}}"+closed, api.ErrLarge)
	y = listType(y)
	open, closed = "{"+open, closed+"}"
	wantUnread(t, s, y, open+"!'00'H"+closed, api.ErrLarge)
	wantUnread(t, s, y, open+"I: !5"+closed, api.ErrLarge)
	wantUnread(t, s, y, open+"I: !", api.ErrEnd)
}

// P5.5: references that cannot be followed, at the token that should begin the value.
func TestCirclesInTexts(t *testing.T) {
	s := circles(t)
	wantUnread(t, s, ref("L"), " !5", api.ErrLoop)
	wantUnread(t, s, ref("M"), " !}", api.ErrLoop)
	wantUnread(t, s, ref("X"), " !5", api.ErrLarge)
	wantUnread(t, s, ref("L"), " !", api.ErrEnd)
	y := typeOf(t, "SEQUENCE {a NULL, b L OPTIONAL}")
	wantRead(t, s, y, "{a NULL}", record("a", api.Value{}))
	wantUnread(t, s, y, "{a NULL, b !5}", api.ErrLoop)
	wantUnread(t, s, y, "{a NULL, b !", api.ErrEnd)
	wantUnread(t, s, y, "{b !5, c 5}", api.ErrLoop)
	wantUnread(t, s, y, "{a !5, b 5}", api.ErrSyntax)
	wantRead(t, s, listType(ref("L")), "{}", list())
	wantUnread(t, s, listType(ref("L")), "{!NULL}", api.ErrLoop)
	wantUnread(t, s, api.Type{Kind: api.TypeOpen}, "L: !NULL", api.ErrLoop)
	wantRead(t, s, ref("Y"), "NULL", api.Value{})
}

// The examples of the chapter.
func TestTextExamples(t *testing.T) {
	wantRead(t, nil, typeOf(t, "SET OF INTEGER"), "{3, 1, 3}", bag(number(1), number(3), number(3)))
	wantText(t, nil, typeOf(t, "SET OF INTEGER"), bag(number(1), number(3), number(3)), "{1, 3, 3}", api.OK)
	y := typeOf(t, "CHOICE {n NULL, l SEQUENCE OF INTEGER}")
	wantRead(t, nil, y, "l: {1, 2}", union("l", list(number(1), number(2))))
	wantUnread(t, nil, y, "l: !5", api.ErrSyntax)
}
