package limits_test

import (
	"fmt"
	"testing"

	"examiner/api"
	"examiner/limits"
)

// wantEffective checks an effective range or size, by the text of a span (of none: ErrNone).
func wantEffective(t *testing.T, what string, got api.Span, open bool, e api.Errno, want string, wantOpen bool) {
	t.Helper()
	if want == "" {
		wantResult(t, what, got, e, api.Span{}, api.ErrNone)
	} else {
		wantResult(t, what, got, e, spansIn(want)[0], api.OK)
	}
	wantResult(t, what+" (open)", open, e, wantOpen, e)
}

// P4.4: effective ranges.
func TestRanges(t *testing.T) {
	for _, c := range []struct {
		text, want string
		open       bool
	}{
		{"INTEGER", "MIN..MAX", false},
		{"INTEGER (1..5, ..., 8)", "1..5", true},
		{"INTEGER (1..5, ...)", "1..5", true},
		{"INTEGER (1..5)", "1..5", false},
		{"INTEGER (7 | 1..2 | -3)", "-3..7", false},
		{"INTEGER (1..5 EXCEPT 5)", "1..4", false},
		{"INTEGER (1..5 EXCEPT (1 | 5), ..., 0)", "2..4", true},
		{"INTEGER (1..5 ^ 3..9)", "3..5", false},
		{"INTEGER (0..MAX)", "0..MAX", false},
		{"INTEGER (1 EXCEPT 1)", "", false},
		{"INTEGER (1 ^ 2, ..., 3)", "", false},
	} {
		got, open, e := limits.RangeOf(typeOf(t, c.text))
		wantEffective(t, "RangeOf "+c.text, got, open, e, c.want, c.open)
	}
}

// P4.4: effective sizes.
func TestSizes(t *testing.T) {
	for _, c := range []struct {
		text, want string
		open       bool
	}{
		{"IA5String", "0..200", false}, {"BIT STRING", "0..200", false}, {"OCTET STRING", "0..200", false}, {"SEQUENCE OF NULL", "0..40", false}, {"SET OF NULL", "0..40", false},
		{"IA5String (SIZE (2) | \"abc\")", "0..200", false},
		{"IA5String (SIZE (2) ^ \"abc\")", "2", false},
		{"IA5String (\"abc\")", "0..200", false},
		{"IA5String (FROM (\"abc\") | SIZE (2))", "0..200", false},
		{"IA5String (FROM (\"abc\") ^ SIZE (2..9))", "2..9", false},
		{"IA5String (SIZE (2..9) EXCEPT SIZE (2))", "2..9", false},
		{"IA5String (SIZE (2..9 EXCEPT 2))", "3..9", false},
		{"IA5String (SIZE (2) | SIZE (5))", "2..5", false},
		{"IA5String (SIZE (2..5) ^ SIZE (4..9), ...)", "4..5", true},
		{"IA5String (SIZE (2), ..., SIZE (9))", "2", true},
		{"IA5String (\"a\", ..., SIZE (9))", "0..200", true},
		{"IA5String (\"abc\" EXCEPT SIZE (9))", "0..200", false},
		{"IA5String (SIZE (1) ^ SIZE (2))", "", false},
		{"IA5String (SIZE (1 ^ 2), ..., SIZE (3))", "", false},
		{"BIT STRING (SIZE (3..5) | SIZE (9))", "3..9", false},
		{"BIT STRING ('1'B | SIZE (9))", "0..200", false},
		{"OCTET STRING (SIZE (3..5), ...)", "3..5", true},
		{"SEQUENCE (SIZE (1..5) EXCEPT SIZE (1)) OF NULL", "1..5", false},
		{"SEQUENCE (SIZE (1..5 EXCEPT 1), ...) OF NULL", "2..5", true},
		{"SET (SIZE (1..5) ^ SIZE (2 | 4)) OF NULL", "2..4", false},
		{"SET (SIZE (1..5) EXCEPT SIZE (1..5)) OF NULL", "1..5", false},
		{"SET (SIZE (1..5 EXCEPT 1..5)) OF NULL", "", false},
		{"SEQUENCE (SIZE (1..2)) OF SET (SIZE (5)) OF NULL", "1..2", false},
	} {
		got, open, e := limits.SizeOf(typeOf(t, c.text))
		wantEffective(t, "SizeOf "+c.text, got, open, e, c.want, c.open)
	}
}

// P4.4: seen characters.
func TestAlphabets(t *testing.T) {
	for text, want := range map[string]string{
		"NumericString":                   "32 48..57",
		"PrintableString":                 "32 39..41 43..58 61 63 65..90 97..122",
		"VisibleString":                   "32..126",
		"IA5String":                       "0..127",
		"IA5String (FROM (\"a\"..\"c\"))": "97..99",
		"IA5String (FROM (\"ca\" | \"x\"..\"z\"))":               "97 99 120..122",
		"IA5String (FROM (\"a\"..\"c\" EXCEPT \"b\"))":           "97 99",
		"IA5String (FROM (\"a\"..\"c\") EXCEPT FROM (\"b\"))":    "97..99",
		"IA5String (FROM (\"a\"..\"c\" ^ \"bd\"))":               "98",
		"IA5String (FROM (\"a\"..\"c\") ^ FROM (\"b\"..\"d\"))":  "98..99",
		"IA5String (FROM (\"a\") | FROM (\"b\"..\"d\"))":         "97..100",
		"IA5String (FROM (\"a\") | SIZE (3))":                    "0..127",
		"IA5String (FROM (\"a\") ^ SIZE (3))":                    "97",
		"IA5String (FROM (\"a\") | \"b\")":                       "0..127",
		"IA5String (\"b\" ^ FROM (\"a\"))":                       "97",
		"IA5String (\"b\" EXCEPT FROM (\"a\"))":                  "0..127",
		"IA5String (\"b\")":                                      "0..127",
		"IA5String (SIZE (1))":                                   "0..127",
		"IA5String (FROM (\"a\"), ..., FROM (\"b\"))":            "97",
		"IA5String (SIZE (1), ..., FROM (\"b\"))":                "0..127",
		"NumericString (FROM (\"/\"..\"Z\"))":                    "48..57",
		"NumericString (FROM (\"12ab\") | FROM (\"4\" | \"x\"))": "49..50 52",
		"NumericString (\"5\" | FROM (\"a\"))":                   "32 48..57",
		"PrintableString (FROM (\" \"..\"0\"))":                  "32 39..41 43..48",
		"NumericString (FROM (\"a\"..\"z\"))":                    "",
		"IA5String (FROM (\"a\" ^ \"b\"))":                       "",
		"IA5String (FROM (\"a\") ^ FROM (\"b\"), ..., \"c\")":    "",
	} {
		got, e := limits.AlphabetOf(typeOf(t, text))
		wantE := api.OK
		if want == "" {
			wantE = api.ErrNone
		}
		wantResult(t, "AlphabetOf "+text, got, e, spansIn(want), wantE)
	}
	odd := bytes(0, 127)
	for i := range 64 {
		odd = odd[:i] + odd[i+1:]
	}
	got, e := limits.AlphabetOf(limited(api.TypeChars, from(text(odd))))
	wantResult(t, "more spans than an argument may have", got, e, evens(1, 64), api.OK)
}

// P4.4: the errors.
func TestErrorsOfSeen(t *testing.T) {
	for _, y := range someTypes() {
		what := fmt.Sprintf("kind %d", y.Kind)
		isString := y.Kind == api.TypeBits || y.Kind == api.TypeOctets || y.Kind == api.TypeChars
		isList := y.Kind == api.TypeList || y.Kind == api.TypeBag
		span, open, e := limits.RangeOf(y)
		if y.Kind != api.TypeInt {
			wantSeen(t, "RangeOf of "+what, span, open, e, api.ErrKind)
		}
		span, open, e = limits.SizeOf(y)
		if !isString && !isList {
			wantSeen(t, "SizeOf of "+what, span, open, e, api.ErrKind)
		}
		l, e := limits.AlphabetOf(y)
		if y.Kind != api.TypeChars {
			wantResult(t, "AlphabetOf of "+what, l, e, spansIn(""), api.ErrKind)
		}
	}
	for _, c := range wrongTypes() {
		what := fmt.Sprintf("%+v", c.y)
		span, open, e := limits.RangeOf(c.y)
		wantSeen(t, "RangeOf of "+what, span, open, e, c.e)
		span, open, e = limits.SizeOf(c.y)
		wantSeen(t, "SizeOf of "+what, span, open, e, c.e)
		l, e := limits.AlphabetOf(c.y)
		wantResult(t, "AlphabetOf of "+what, l, e, spansIn(""), c.e)
	}
}

// wantSeen checks that nothing is seen, for an error.
func wantSeen(t *testing.T, what string, span api.Span, open bool, e, wantE api.Errno) {
	t.Helper()
	wantResult(t, what, span, e, api.Span{}, wantE)
	wantResult(t, what+" (open)", open, e, false, wantE)
}
