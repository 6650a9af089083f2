package values_test

import (
	"fmt"
	"testing"

	"examiner/api"
	"examiner/values"
)

// wantNormal checks the normal form of a value, whether the value is it, and that the normal form is its own.
func wantNormal(t *testing.T, what string, s api.Schema, y api.Type, v, want api.Value) {
	t.Helper()
	got, e := values.Normal(s, y, v)
	wantResult(t, "Normal "+what, got, e, want, api.OK)
	is, e := values.IsNormal(s, y, v)
	wantResult(t, "IsNormal "+what, is, e, alike(v, want), api.OK)
	is, e = values.IsNormal(s, y, want)
	wantResult(t, "IsNormal of the normal form "+what, is, e, true, api.OK)
}

func wantNoNormal(t *testing.T, what string, s api.Schema, y api.Type, v api.Value, want api.Errno) {
	t.Helper()
	got, e := values.Normal(s, y, v)
	wantResult(t, "Normal "+what, got, e, api.Value{}, want)
	is, e := values.IsNormal(s, y, v)
	wantResult(t, "IsNormal "+what, is, e, false, want)
}

// wantNormals checks values of a type as texts, "" for the record without fields, each with its normal form behind it.
func wantNormals(t *testing.T, y api.Type, pairs ...string) {
	t.Helper()
	for i := 0; i < len(pairs); i += 2 {
		wantNormal(t, pairs[i], nil, y, valueOf(t, nil, y, "{"+pairs[i]+"}"), valueOf(t, nil, y, "{"+pairs[i+1]+"}"))
	}
}

// P5.3: the root has its fields in the order of the type, and all its defaults.
func TestNormalRoot(t *testing.T) {
	for _, kind := range []string{"SEQUENCE", "SET"} {
		wantNormals(t, typeOf(t, kind+" {a INTEGER (0..7), b BOOLEAN DEFAULT TRUE}"),
			"a 3", "a 3, b TRUE",
			"a 3, b TRUE", "a 3, b TRUE",
			"a 3, b FALSE", "a 3, b FALSE",
			"b FALSE, a 3", "a 3, b FALSE")
		wantNormals(t, typeOf(t, kind+" {a INTEGER DEFAULT 1, b INTEGER OPTIONAL, c INTEGER DEFAULT 3, ..., d NULL OPTIONAL}"),
			"", "a 1, c 3",
			"b 2", "a 1, b 2, c 3",
			"d NULL, c 1, b 2", "a 1, b 2, c 1, d NULL")
	}
	wantNormals(t, typeOf(t, "SEQUENCE {a NULL OPTIONAL}"), "", "", "a NULL", "a NULL")
}

// P5.3: additions with defaults are there exactly if another one of the group, or one behind them, is there that is not such a one.
func TestNormalAdditions(t *testing.T) {
	y := typeOf(t, "SEQUENCE {a INTEGER DEFAULT 1, ..., b INTEGER DEFAULT 5, [[c INTEGER DEFAULT 6, d INTEGER OPTIONAL]], e INTEGER DEFAULT 7, f NULL OPTIONAL}")
	wantNormals(t, y,
		"a 1", "a 1",
		"a 2", "a 2",
		"b 5", "a 1",
		"b 4", "a 1, b 4",
		"c 6", "a 1",
		"b 4, c 6", "a 1, b 4",
		"b 5, c 6, e 7", "a 1",
		"c 9", "a 1, b 5, c 9",
		"d 9", "a 1, b 5, c 6, d 9",
		"d 9, b 5", "a 1, b 5, c 6, d 9",
		"c 6, d 9, b 4", "a 1, b 4, c 6, d 9",
		"e 7", "a 1",
		"d 9, e 7", "a 1, b 5, c 6, d 9",
		"e 8", "a 1, b 5, c 6, e 8",
		"f NULL", "a 1, b 5, c 6, e 7, f NULL",
		"f NULL, e 8, c 1, b 2", "a 1, b 2, c 1, e 8, f NULL",
		"f NULL, e 7, d 0, c 6, b 5, a 0", "a 0, b 5, c 6, d 0, e 7, f NULL")
	wantNormals(t, typeOf(t, "SET {..., [[a INTEGER OPTIONAL, b INTEGER DEFAULT 5]], c INTEGER DEFAULT 6}"),
		"a 1", "a 1, b 5", // b is of the group, behind a
		"b 5", "",
		"b 6", "b 6",
		"a 1, c 6", "a 1, b 5",
		"c 5", "b 5, c 5")
	wantNormals(t, typeOf(t, "SEQUENCE {..., a INTEGER OPTIONAL, b INTEGER DEFAULT 5}"),
		"a 1", "a 1", // fields without a group are none together
		"a 1, b 5", "a 1")
	wantNormals(t, typeOf(t, "SEQUENCE {..., [[a INTEGER OPTIONAL]], [[b INTEGER DEFAULT 5]]}"),
		"a 1", "a 1",
		"a 1, b 5", "a 1",
		"a 1, b 6", "a 1, b 6")
	wantNormals(t, typeOf(t, "SEQUENCE {..., [[a INTEGER DEFAULT 4, b INTEGER DEFAULT 5, c INTEGER DEFAULT 6]]}"),
		"a 4, b 5, c 6", "",
		"b 0", "a 4, b 0, c 6",
		"b 0, a 4", "a 4, b 0, c 6")
	wantNormals(t, typeOf(t, "SEQUENCE {..., a INTEGER DEFAULT 4, b NULL, c INTEGER DEFAULT 6}"),
		"b NULL", "a 4, b NULL",
		"b NULL, c 6", "a 4, b NULL",
		"b NULL, c 7", "a 4, b NULL, c 7")
}

// P5.3: what is within a value is in normal form, too, defaults included, and bags are sorted by it.
func TestNormalWithin(t *testing.T) {
	s := schemaOf(t, "A ::= SEQUENCE {x INTEGER DEFAULT 5, y INTEGER OPTIONAL}", "B ::= A")
	none, five, three := record(""), record("x", number(5)), record("x", number(3))
	wantNormal(t, "a reference", s, ref("B"), none, five)
	wantNormal(t, "a list", s, listType(ref("B")), list(none, three, none), list(five, three, five))
	wantNormal(t, "a bag", s, bagType(ref("B")), bag(none, none, three), bag(three, five, five))
	wantNormal(t, "a bag of bags", s, bagType(bagType(ref("B"))), bag(bag(none, three), bag(five)), bag(bag(three, five), bag(five)))
	wantNormal(t, "a bag of bags that change places", s, bagType(bagType(ref("B"))), bag(bag(none), bag(three)), bag(bag(three), bag(five)))
	wantNormal(t, "a union", s, typeOf(t, "CHOICE {a NULL, b B}"), union("b", none), union("b", five))
	wantNormal(t, "an open value", s, api.Type{Kind: api.TypeOpen}, open("B", none), open("B", five))
	wantNormal(t, "octets", s, api.Type{Kind: api.TypeOpen}, open("", octets("")), open("", octets("")))
	wantNormal(t, "a field", s, typeOf(t, "SEQUENCE {a A, b B OPTIONAL}"), record("b a", none, three), record("a b", three, five))

	inRoot := withDefault(typeOf(t, "SEQUENCE {a B}"), "a", none)
	wantNormal(t, "a default in the root", s, inRoot, record(""), record("a", five))
	added := withDefault(typeOf(t, "SEQUENCE {..., a B, b NULL OPTIONAL}"), "a", none)
	wantNormal(t, "the default, written out", s, added, record("a", five), record(""))
	wantNormal(t, "the default as it is there", s, added, record("a", none), record(""))
	wantNormal(t, "another value", s, added, record("a", three), record("a", three))
	wantNormal(t, "a default that is missing", s, added, record("b", api.Value{}), record("a b", five, api.Value{}))
	added = withDefault(added, "a", five)
	wantNormal(t, "the value without what the default has", s, added, record("a", none), record(""))
	added = withDefault(typeOf(t, "SEQUENCE {..., a SET OF B}"), "a", bag(none, none, three))
	wantNormal(t, "a default with a bag that has another order", s, added, record("a", bag(three, five, five)), record(""))
}

// Values without records and bags are their own normal forms.
func TestNormalOthers(t *testing.T) {
	for i, v := range someValues()[:9] {
		wantNormal(t, fmt.Sprint("type ", i), nil, someTypes()[i], v, v)
	}
}

// P5.3: the error of the first default that does not fit, in the schema, then in the type, whether it is used or not.
func TestWrongDefaults(t *testing.T) {
	const wrongType, wrongName, tooGreat = "a BOOLEAN DEFAULT 5", "a CHOICE {n NULL} DEFAULT m: NULL", "a INTEGER (0..7) DEFAULT 8"
	null := typeOf(t, "NULL")
	for text, e := range map[string]api.Errno{
		"SEQUENCE {" + wrongType + "}":                                        api.ErrType,
		"SEQUENCE {" + wrongName + "}":                                        api.ErrMissing,
		"SET {" + tooGreat + "}":                                              api.ErrBound,
		"SEQUENCE {..., a SEQUENCE {b NULL} DEFAULT {b TRUE}}":                api.ErrType,
		"SEQUENCE {a NULL OPTIONAL, ..., [[b L DEFAULT 5]]}":                  api.ErrLoop,
		"SEQUENCE OF CHOICE {n SET {" + tooGreat + "}}":                       api.ErrBound,
		"SEQUENCE {b SEQUENCE {" + wrongType + "}, " + tooGreat + "}":         api.ErrBound, // the type itself first
		"SEQUENCE {b SEQUENCE {" + wrongType + "}, c SET {" + tooGreat + "}}": api.ErrType,
		"SEQUENCE {" + tooGreat + ", b BOOLEAN DEFAULT 5}":                    api.ErrBound,
		"SEQUENCE {b BOOLEAN DEFAULT 5, " + tooGreat + "}":                    api.ErrType,
	} {
		s := schemaOf(t, "A ::= "+text, "L ::= L")
		wantNoNormal(t, "NULL with "+text+" in the schema", s, null, api.Value{}, e)
		y := typeOf(t, "CHOICE {n NULL, m "+text+"}")
		wantNoNormal(t, "NULL of "+text, s[1:], y, union("n", api.Value{}), e)
	}
	s := schemaOf(t, "A ::= SEQUENCE {"+tooGreat+"}", "B ::= SEQUENCE {"+wrongType+"}")
	y := typeOf(t, "SET {"+wrongName+"}")
	wantNoNormal(t, "a value with a fault of its own", s, y, union("b", api.Value{}), api.ErrType)
	wantNoNormal(t, "the first default of the schema", s, y, record(""), api.ErrBound)
	wantNoNormal(t, "the second one", s[1:], y, record(""), api.ErrType)
	wantNoNormal(t, "the type's", nil, y, record(""), api.ErrMissing)
	_, e := values.Fits(s, y, record(""))
	wantResult(t, "Fits", 0, e, 0, api.OK)
}

// P5.3: a normal form has at most MaxDepth values within one another.
func TestDeepNormalForms(t *testing.T) {
	// Of T<n> each value has the default of T<n-1>, up to T1, which has no field.
	s := schemaOf(t, "T1 ::= SEQUENCE {}")
	for n := 2; n <= api.MaxDepth+1; n++ {
		s = append(s, api.Named{Name: fmt.Sprint("T", n), Type: withDefault(typeOf(t, fmt.Sprintf("SEQUENCE {a T%d}", n-1)), "a", record(""))})
	}
	deep := record("")
	for range api.MaxDepth - 1 {
		deep = record("a", deep)
	}
	wantNormal(t, "a value as deep as may be", s, ref("T8"), record(""), deep)
	wantNoNormal(t, "a value too deep", s, ref("T9"), record(""), api.ErrLarge)
	wantNoNormal(t, "a value too deep within a list", s, listType(ref("T8")), list(record("")), api.ErrLarge)
	wantNormal(t, "an empty list", s, listType(ref("T9")), list(), list())

	endless := api.Schema{{Name: "T", Type: withDefault(typeOf(t, "SEQUENCE {a T}"), "a", record(""))}}
	wantNoNormal(t, "a value that never ends", endless, ref("T"), record(""), api.ErrLarge)
	wantNoNormal(t, "one with a field", endless, ref("T"), record("a", record("")), api.ErrLarge)

	oids := withDefault(typeOf(t, "SEQUENCE {a OBJECT IDENTIFIER}"), "a", oid(1, 2))
	y, v, want := oids, record(""), record("a", oid(1, 2))
	for range api.MaxDepth - 3 {
		y, v, want = listType(y), list(v), list(want)
	}
	wantNormal(t, "numbers as deep as may be", nil, y, v, want)
	wantNoNormal(t, "numbers too deep", nil, listType(y), list(v), api.ErrLarge)
}

// P5.3: a default that is compared must not be too deep at its place either.
func TestDeepDefaults(t *testing.T) {
	s := schemaOf(t, "I ::= SEQUENCE OF SEQUENCE OF NULL")
	s = append(s, api.Named{Name: "T", Type: withDefault(typeOf(t, "SEQUENCE {..., a I}"), "a", list(list()))})
	y, v, none := ref("T"), record("a", list()), record("")
	for range api.MaxDepth - 3 {
		y, v, none = listType(y), list(v), list(none)
	}
	wantNormal(t, "a default as deep as may be", s, y, v, v)
	y, v, none = listType(y), list(v), list(none)
	wantNoNormal(t, "a default too deep, compared", s, y, v, api.ErrLarge)
	wantNormal(t, "a default too deep, not compared", s, y, none, none)

	endless := api.Schema{{Name: "T", Type: withDefault(typeOf(t, "SEQUENCE {..., a T}"), "a", record("a", record("")))}}
	wantNormal(t, "an endless default, not compared", endless, ref("T"), record(""), record(""))
	wantNoNormal(t, "an endless default, compared", endless, ref("T"), record("a", record("")), api.ErrLarge)
	ended := api.Schema{{Name: "T", Type: withDefault(typeOf(t, "SEQUENCE {..., a T}"), "a", record(""))}}
	wantNormal(t, "a default of the type itself", ended, ref("T"), record("a", record("")), record(""))
}

// fifths are a type of lists of records that have a number each in their normal form, with some fields behind, and a value of 39 such records, which has 119 values in its normal form.
func fifths(t *testing.T, fields string) (api.Type, api.Value) {
	v := list()
	for range 39 {
		v.Items = append(v.Items, record(""))
	}
	return typeOf(t, "SEQUENCE {l SEQUENCE OF SEQUENCE {a INTEGER DEFAULT 5, b INTEGER DEFAULT 6}"+fields+"}"), record("l", v)
}

// P5.3: a normal form has at most MaxValueNodes values within it.
func TestLargeNormalForms(t *testing.T) {
	y, v := fifths(t, ", m INTEGER DEFAULT 1")
	full := list()
	for range 39 {
		full.Items = append(full.Items, record("a b", number(5), number(6)))
	}
	wantNormal(t, "120 values", nil, y, v, record("l m", full, number(1)))
	y, v = fifths(t, ", m INTEGER DEFAULT 1, n NULL DEFAULT NULL")
	wantNoNormal(t, "121 values", nil, y, v, api.ErrLarge)
	wantNoNormal(t, "many more", nil, listType(y), list(v, v), api.ErrLarge)
	y, v = fifths(t, ", m INTEGER DEFAULT 1, ..., n NULL DEFAULT NULL")
	wantNormal(t, "120 values, and an addition that is left out", nil, y, record("l n", v.Items[0], api.Value{}), record("l m", full, number(1)))
}

// P5.3: a default that is compared must not have too many values by itself either, also if the value has few.
func TestLargeDefaults(t *testing.T) {
	few := record("l", list())
	for fields, isLarge := range map[string]bool{", m INTEGER DEFAULT 1": false, ", m INTEGER DEFAULT 1, n NULL DEFAULT NULL": true} {
		inner, many := fifths(t, fields)
		s := api.Schema{{Name: "T", Type: inner}}
		normal, e := values.Normal(s, inner, few)
		wantResult(t, "Normal of few", 0, e, 0, api.OK)
		added := withDefault(typeOf(t, "SEQUENCE {..., a T}"), "a", many)
		wantNormal(t, "a default that is not compared", s, added, record(""), record(""))
		inRoot := withDefault(typeOf(t, "SEQUENCE {a T}"), "a", many)
		wantNormal(t, "a large default in the root that is not used", s, inRoot, record("a", few), record("a", normal))
		if isLarge {
			wantNoNormal(t, "a default of 121 values", s, added, record("a", few), api.ErrLarge)
		} else {
			wantNormal(t, "a default of 120 values", s, added, record("a", few), record("a", normal))
		}
		wantNoNormal(t, "a large default in the root", s, inRoot, record(""), api.ErrLarge)
	}
}
