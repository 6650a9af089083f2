package values_test

import (
	"fmt"
	"strings"
	"testing"

	"examiner/api"
	"examiner/lexis"
	"examiner/values"
)

func wantText(t *testing.T, s api.Schema, y api.Type, v api.Value, want string, e api.Errno) {
	t.Helper()
	got, gotE := values.FormatValue(s, y, v)
	wantResult(t, fmt.Sprintf("FormatValue %+v", v), got, gotE, want, e)
	if e == api.OK {
		read, length, e := values.ParseValue(s, y, want)
		wantResult(t, fmt.Sprintf("ParseValue(%q)", want), read, e, v, api.OK)
		wantResult(t, fmt.Sprintf("length of %q", want), length, e, len(want), api.OK)
	}
}

// P5.5: the texts of values by their types, and back.
func TestTexts(t *testing.T) {
	s := schemaOf(t, "A ::= SET OF INTEGER", "B-2 ::= CHOICE {a A, b B-2}")
	anything := api.Type{Kind: api.TypeOpen}
	for _, x := range []struct {
		typ  api.Type
		v    api.Value
		text string
	}{
		{typeOf(t, "NULL"), api.Value{}, "NULL"},
		{typeOf(t, "BOOLEAN"), api.Value{Kind: api.ValueBool}, "FALSE"},
		{typeOf(t, "BOOLEAN"), api.Value{Kind: api.ValueBool, N: 1}, "TRUE"},
		{typeOf(t, "INTEGER"), number(0), "0"},
		{typeOf(t, "INTEGER"), number(-5), "- 5"},
		{typeOf(t, "INTEGER"), number(-api.MaxInteger), "- 1152921504606846976"},
		{typeOf(t, "ENUMERATED {a (0), b-c (1)}"), enum("b-c"), "b-c"},
		{typeOf(t, "BIT STRING"), api.Value{Kind: api.ValueBits, S: "0110"}, "'0110'B"},
		{typeOf(t, "OCTET STRING"), octets("\x00\xfa"), "'00FA'H"},
		{typeOf(t, "IA5String"), chars("a\"b"), "\"a\"\"b\""},
		{typeOf(t, "OBJECT IDENTIFIER"), oid(1, 39, 100), "{1 39 100}"},
		{typeOf(t, "REAL"), api.Value{Kind: api.ValueReal, N: -3, E: -10}, "{mantissa - 3, base 2, exponent - 10}"},
		{typeOf(t, "REAL"), api.Value{Kind: api.ValueReal}, "{mantissa 0, base 2, exponent 0}"},
		{typeOf(t, "SEQUENCE {}"), record(""), "{}"},
		{typeOf(t, "SET {a NULL OPTIONAL}"), record(""), "{}"},
		{typeOf(t, "SEQUENCE {a NULL, b BOOLEAN OPTIONAL}"), record("b a", api.Value{Kind: api.ValueBool}, api.Value{}), "{b FALSE, a NULL}"},
		{typeOf(t, "SEQUENCE {mantissa INTEGER, base INTEGER, exponent INTEGER}"), record("mantissa base exponent", number(4), number(3), number(0)), "{mantissa 4, base 3, exponent 0}"},
		{typeOf(t, "SEQUENCE OF INTEGER"), list(), "{}"},
		{typeOf(t, "SEQUENCE OF INTEGER"), list(number(3), number(1)), "{3, 1}"},
		{ref("A"), bag(), "{}"},
		{ref("A"), bag(number(1), number(3), number(3)), "{1, 3, 3}"},
		{ref("B-2"), union("b", union("a", bag(number(1)))), "b: a: {1}"},
		{anything, open("A", bag(number(-1), number(2))), "A: {- 1, 2}"},
		{anything, open("B-2", union("a", bag())), "B-2: a: {}"},
		{anything, open("", octets("")), "''H"},
		{listType(anything), list(open("", octets("\x05\x00")), open("A", bag())), "{'0500'H, A: {}}"},
	} {
		wantText(t, s, x.typ, x.v, x.text, api.OK)
	}
}

// P5.5: ErrRefused of names that chapter 2 does not write.
func TestRefusedNames(t *testing.T) {
	s := api.Schema{{Name: "A"}, {Name: "NULL"}, {Name: "Z"}, {Name: "a"}, {Name: "b_c"}}
	for _, n := range s {
		text, e := "", api.ErrRefused
		if n.Name == "A" || n.Name == "Z" {
			text, e = n.Name+": NULL", api.OK
		}
		wantText(t, s, api.Type{Kind: api.TypeOpen}, open(n.Name, api.Value{}), text, e)
	}
	for _, name := range []string{"a", "A", "b_c", "b-c", "NULL", "of", "OF", "z", "Z"} {
		one := []api.Field{{Name: name}}
		y := api.Type{Kind: api.TypeEnum, Fields: one, Root: 1}
		texts := []string{name, "{" + name + " NULL}", name + ": NULL"}
		e := api.OK
		switch name {
		case "A", "b_c", "NULL", "OF", "Z":
			texts, e = make([]string, 3), api.ErrRefused
		}
		wantText(t, nil, y, enum(name), texts[0], e)
		y.Kind = api.TypeSet
		wantText(t, nil, y, record(name, api.Value{}), texts[1], e)
		y.Kind = api.TypeUnion
		wantText(t, nil, y, union(name, api.Value{}), texts[2], e)
	}
}

// P5.5: ErrRefused of strings that chapter 2 does not write.
func TestRefusedStrings(t *testing.T) {
	ia5, raw := api.Type{Kind: api.TypeChars, Name: api.Ia5}, api.Type{Kind: api.TypeOctets}
	for _, c := range []string{"\x00", "\n", "\x1f", "\x7f"} {
		wantText(t, nil, ia5, chars(c), "", api.ErrRefused)
	}
	long := strings.Repeat("x", api.MaxString)
	wantText(t, nil, ia5, chars(long), "\""+long+"\"", api.OK)
	wantText(t, nil, ia5, chars("\""+long[2:]), "\"\"\""+long[2:]+"\"", api.OK)
	wantText(t, nil, ia5, chars("\""+long[1:]), "", api.ErrRefused)
	wantText(t, nil, raw, octets(strings.Repeat("\xab", 100)), "'"+strings.Repeat("AB", 100)+"'H", api.OK)
	wantText(t, nil, raw, octets(strings.Repeat("\xab", 101)), "", api.ErrRefused)
	wantText(t, nil, api.Type{Kind: api.TypeOpen}, open("", octets(strings.Repeat("\xab", 101))), "", api.ErrRefused)
	wantText(t, nil, listType(bagType(ia5)), list(bag(chars("a")), bag(chars("\x01"))), "", api.ErrRefused)
}

// P5.5: the errors of Fits without the place, ErrRefused anywhere, then ErrLarge.
func TestLargeTexts(t *testing.T) {
	ia5 := typeOf(t, "IA5String (SIZE (0..200))")
	long := chars(strings.Repeat("x", api.MaxString))
	l := list()
	for range 39 {
		l.Items = append(l.Items, long)
	}
	// Each string has quotation marks, a comma and a blank; the last comma and blank do not stand there, but braces.
	room := api.MaxText - 39*204
	lists := listType(ia5)
	text, e := values.FormatValue(nil, lists, l)
	wantResult(t, "39 strings", len(text), e, 39*204, api.OK)
	l.Items = append(l.Items, chars(strings.Repeat("x", room-4)))
	text, e = values.FormatValue(nil, lists, l)
	wantResult(t, "as many characters as may be", len(text), e, api.MaxText, api.OK)
	l.Items[39].S += "x"
	wantText(t, nil, lists, l, "", api.ErrLarge)
	l.Items[0].S = "\x01"
	l.Items[1].S = "\x01"
	l.Items[39].S += strings.Repeat("x", 150)
	wantText(t, nil, lists, l, "", api.ErrRefused)
	wantText(t, nil, lists, list(chars("\x01"), number(5)), "", api.ErrType)
	wantText(t, nil, lists, list(chars("\xff")), "", api.ErrType)
}

// P5.5: a text has at most MaxTokens tokens, and reals have the most of them.
func TestManyTokens(t *testing.T) {
	y := listType(typeOf(t, "REAL"))
	v := list()
	for range 40 {
		v.Items = append(v.Items, api.Value{Kind: api.ValueReal, N: -1, E: -1})
	}
	// A negative real with a comma has 13 tokens; lists have braces and one comma less: 115 * 13 + 3 * (2 - 1) + 2 + 2 are two too many.
	last := list(append([]api.Value{}, v.Items[:35]...)...)
	three := listType(y)
	wantText(t, nil, three, list(v, v, last), "", api.ErrLarge)
	last.Items[0].N = 1
	wantText(t, nil, three, list(v, v, last), "", api.ErrLarge)
	last.Items[0].E = 1
	text, e := values.FormatValue(nil, three, list(v, v, last))
	tokens, _, _ := lexis.TokensOf(api.LangAsn, text)
	wantResult(t, "as many tokens as may be", len(tokens), e, api.MaxTokens, api.OK)
}
