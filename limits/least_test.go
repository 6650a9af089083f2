package limits_test

import (
	"fmt"
	"strings"
	"testing"

	"examiner/api"
	"examiner/limits"
)

// wantLeast checks the least value of a type, or (nil) that there is none.
func wantLeast(t *testing.T, what string, y api.Type, want *api.Value) {
	t.Helper()
	got, e := limits.LeastOf(y)
	if want == nil {
		wantResult(t, "LeastOf "+what, got, e, api.Value{}, api.ErrNone)
		return
	}
	wantResult(t, "LeastOf "+what, got, e, *want, api.OK)
}

// P4.5: the number nearest to 0.
func TestNearestNumbers(t *testing.T) {
	for text, want := range map[string]int{
		"INTEGER": 0, "INTEGER (-5..5)": 0, "INTEGER (0..5)": 0, "INTEGER (-5..0)": 0, "INTEGER (3..5)": 3, "INTEGER (-5..-3)": -3,
		"INTEGER (-2 | 2)": 2, "INTEGER (-2 | 3)": -2, "INTEGER (-3 | 2)": 2, "INTEGER (-2..9 EXCEPT (0 | 1))": -1, "INTEGER (-2..9 EXCEPT (-1..1))": 2,
		"INTEGER (-9..-1 | 1)": 1, "INTEGER (-9..-1 | 2)": -1, "INTEGER (5 | 9 | -7)": 5, "INTEGER (-9 | -7 | 8)": -7,
		"INTEGER (5, ..., 4)": 4, "INTEGER (5, ..., 6)": 5, "INTEGER (5, ...)": 5, "INTEGER (MAX)": api.MaxInteger, "INTEGER (MIN)": -api.MaxInteger, "INTEGER (MIN | MAX)": api.MaxInteger,
		"INTEGER (1 ^ 2, ..., 7)": 7,
		"SEQUENCE OF NULL":        0, "SET (SIZE (2..9)) OF NULL": 2, "SEQUENCE (SIZE (2..9) EXCEPT SIZE (2 | 3)) OF NULL": 4, "SET (SIZE (9), ..., SIZE (3)) OF NULL": 3, "SET (SIZE (40)) OF NULL": 40,
	} {
		v := number(want)
		wantLeast(t, text, typeOf(t, text), &v)
	}
	for _, text := range []string{"INTEGER (1 EXCEPT 1)", "INTEGER (0 ^ 1)", "SEQUENCE (SIZE (1) ^ SIZE (2)) OF NULL", "SET (SIZE (1..2) EXCEPT SIZE (0..9)) OF NULL", "SET (SIZE (1 EXCEPT 1), ...) OF NULL"} {
		wantLeast(t, text, typeOf(t, text), nil)
	}
}

// P4.5: the shortest strings, of several the first one.
func TestShortestStrings(t *testing.T) {
	for text, want := range map[string]api.Value{
		"IA5String": chars(""), "BIT STRING": bits(""), "OCTET STRING": octets(""),
		"PrintableString (SIZE (1..2) ^ FROM (\"x\"..\"z\"))":                                          chars("x"),
		"PrintableString ((SIZE (1..2) ^ FROM (\"x\"..\"z\")) EXCEPT (\"x\" | \"y\"))":                 chars("z"),
		"IA5String (FROM (\"a\"..\"c\") EXCEPT \"a\")":                                                 chars(""),
		"IA5String (FROM (\"a\"..\"c\") EXCEPT \"\")":                                                  chars("a"),
		"IA5String (FROM (\"a\"..\"c\") EXCEPT SIZE (0..2))":                                           chars("aaa"),
		"IA5String (SIZE (2))":                                                                         chars("\x00\x00"),
		"VisibleString (SIZE (2))":                                                                     chars("  "),
		"PrintableString (SIZE (3))":                                                                   chars("   "),
		"NumericString (\"21\" | \"3\")":                                                               chars("3"),
		"NumericString (\"21\" | \"13\" | \"14\")":                                                     chars("13"),
		"NumericString (SIZE (1) EXCEPT \" \")":                                                        chars("0"),
		"NumericString (SIZE (1) EXCEPT FROM (\" 0\"))":                                                chars("1"),
		"NumericString (SIZE (2) EXCEPT FROM (\" 0\"))":                                                chars(" 1"),
		"NumericString (FROM (\"0\"..\"3\") EXCEPT (FROM (\"0\" | \"1\") | FROM (\"2\" | \"3\")))":     chars("02"),
		"NumericString (FROM (\"01\" | \"2\") EXCEPT (FROM (\"01\") | FROM (\"02\") | FROM (\"12\")))": chars("012"),
		"NumericString (FROM (\"05\") EXCEPT (FROM (\"0\") | \"05\" | \"50\"))":                        chars("5"),
		"NumericString (FROM (\"05\") EXCEPT (FROM (\"0\") | FROM (\"5\") | \"05\"))":                  chars("50"),
		"NumericString (FROM (\"05\") EXCEPT (FROM (\"0\") | FROM (\"5\") | \"05\" | \"50\"))":         chars("005"),
		"NumericString (FROM (\"ab\"))":                                                                chars(""),
		"NumericString (FROM (\"ab5\") ^ SIZE (1))":                                                    chars("5"),
		"NumericString (FROM (\"a\") ^ SIZE (2) | \"999\")":                                            chars("999"),
		"NumericString (\"5\", ..., \"\")":                                                             chars(""),
		"NumericString (\"5\" ^ \"6\", ..., SIZE (1))":                                                 chars(" "),
		"NumericString (SIZE (1), ...)":                                                                chars(" "),
		"BIT STRING (SIZE (2) EXCEPT ('00'B | '01'B))":                                                 bits("10"),
		"BIT STRING (SIZE (3) EXCEPT SIZE (3) | '11'B)":                                                bits("11"),
		"BIT STRING (SIZE (1..2) EXCEPT ('0'B | '1'B | '00'B))":                                        bits("01"),
		"BIT STRING ('11'B | SIZE (3))":                                                                bits("11"),
		"OCTET STRING (SIZE (1) EXCEPT '00'H)":                                                         octets("\x01"),
		"OCTET STRING ('FF'H | '80'H)":                                                                 octets("\x80"),
		"OCTET STRING ('FF'H | SIZE (1))":                                                              octets("\x00"),
		"OCTET STRING (SIZE (2) EXCEPT ('0000'H | '0001'H | '0003'H))":                                 octets("\x00\x02"),
		"OCTET STRING (SIZE (2..3) ^ ('000000'H | 'FFFF'H), ..., 'FFFE'H)":                             octets("\xff\xfe"),
	} {
		wantLeast(t, text, typeOf(t, text), &want)
	}
}

// P4.5: constraints that no string satisfies.
func TestNoStrings(t *testing.T) {
	for _, text := range []string{
		"BIT STRING (SIZE (1) EXCEPT ('0'B | '1'B))", "BIT STRING ('01'B EXCEPT '01'B)", "OCTET STRING ('00'H ^ SIZE (2))", "IA5String (\"a\" EXCEPT FROM (\"a\"))",
		"NumericString (SIZE (1..2) ^ FROM (\"ab\"))", "IA5String (SIZE (1) ^ SIZE (2), ...)", "IA5String (FROM (\"a\") EXCEPT SIZE (0..200))", "IA5String (FROM (\"a\" ^ \"b\") EXCEPT \"\")",
		"IA5String (SIZE (1 ^ 2))", "NumericString (FROM (\"0\") ^ FROM (\"1\") EXCEPT \"\")", "NumericString (FROM (\"012\") ^ SIZE (2) EXCEPT (FROM (\"01\") | FROM (\"02\") | FROM (\"12\")))",
	} {
		wantLeast(t, text, typeOf(t, text), nil)
	}
}

// P4.5: the longest strings, and those that need as many characters as there can be nodes about them.
func TestLongStrings(t *testing.T) {
	blanks := strings.Repeat(" ", api.MaxString)
	longest := size(span(api.MaxString, api.MaxString))
	want := chars(blanks)
	wantLeast(t, "the longest", stringType(api.Numeric, longest), &want)
	want = chars(blanks[1:] + "0")
	wantLeast(t, "the longest but one", stringType(api.Numeric, without(longest, text(blanks))), &want)
	wantLeast(t, "none", stringType(api.Numeric, without(both(longest, from(text(" "))), text(blanks))), nil)
	last := text("9" + strings.Repeat("8", api.MaxString-1))
	want = chars(last[0].Text)
	wantLeast(t, "a text", stringType(api.Numeric, union(last, both(longest, from(text("9"))))), &want)
	want = octets(strings.Repeat("\x00", api.MaxString))
	wantLeast(t, "octets", limited(api.TypeOctets, longest), &want)
	all := from(span('0', '6'))
	for i := range 6 {
		left := []byte("0123456")
		all = without(all, from(text(string(append(left[:i], left[i+1:]...)))))
	}
	want = chars("012345")
	wantLeast(t, "as many FROM as there may be", stringType(api.Numeric, all), &want)
	all[len(all)-1].Kind = api.LimitBoth
	want = chars("01234")
	wantLeast(t, "one of them turned round", stringType(api.Numeric, all), &want)
}

// P4.5: the number that one type permits and another one does not.
func TestOutside(t *testing.T) {
	for _, c := range []struct {
		a, b string
		want int
	}{
		{"INTEGER (-3..3)", "INTEGER (-1..9)", -2}, {"INTEGER (-3..3)", "INTEGER (1..9)", 0}, {"INTEGER (-3..3)", "INTEGER (-9..0)", 1}, {"INTEGER (-3..3)", "INTEGER (-1..1)", 2},
		{"INTEGER", "INTEGER (0..MAX)", -1}, {"INTEGER", "INTEGER (MIN..0)", 1}, {"INTEGER (5)", "INTEGER (5 EXCEPT 5)", 5}, {"INTEGER (5, ..., 9)", "INTEGER (5)", 9}, {"INTEGER (5 | 9)", "INTEGER (5, ..., 8)", 9},
		{"SEQUENCE OF NULL", "SEQUENCE (SIZE (0..3)) OF BOOLEAN", 4}, {"SET (SIZE (2..5)) OF NULL", "SEQUENCE (SIZE (3..9)) OF NULL", 2}, {"SEQUENCE OF NULL", "SET (SIZE (1..40)) OF NULL", 0},
	} {
		got, e := limits.OutsideOf(typeOf(t, c.a), typeOf(t, c.b))
		wantResult(t, fmt.Sprintf("OutsideOf %s, %s", c.a, c.b), got, e, c.want, api.OK)
	}
	for _, c := range [][2]string{
		{"INTEGER (1..5)", "INTEGER (0..9)"}, {"INTEGER (1..5)", "INTEGER"}, {"INTEGER", "INTEGER"}, {"INTEGER (1 ^ 2)", "INTEGER (1 ^ 2)"}, {"INTEGER (8)", "INTEGER (1, ..., 8)"},
		{"SEQUENCE (SIZE (1)) OF NULL", "SET (SIZE (0..3)) OF NULL"}, {"SET OF NULL", "SEQUENCE OF SET (SIZE (1)) OF NULL"},
	} {
		got, e := limits.OutsideOf(typeOf(t, c[0]), typeOf(t, c[1]))
		wantResult(t, fmt.Sprintf("OutsideOf %s, %s", c[0], c[1]), got, e, 0, api.ErrNone)
	}
}

// P4.5: the errors, and their order.
func TestErrorsOfWitnesses(t *testing.T) {
	for _, y := range someTypes() {
		kind := y.Kind
		isList := kind == api.TypeList || kind == api.TypeBag
		isString := kind == api.TypeBits || kind == api.TypeOctets || kind == api.TypeChars
		if got, e := limits.LeastOf(y); kind != api.TypeInt && !isList && !isString {
			wantResult(t, fmt.Sprintf("LeastOf of kind %d", kind), got, e, api.Value{}, api.ErrKind)
		}
		for _, z := range someTypes() {
			isOtherList := z.Kind == api.TypeList || z.Kind == api.TypeBag
			wantE := api.ErrKind
			if kind == api.TypeInt && z.Kind == api.TypeInt || isList && isOtherList {
				wantE = api.ErrNone
			}
			got, e := limits.OutsideOf(y, z)
			wantResult(t, fmt.Sprintf("OutsideOf of kinds %d and %d", kind, z.Kind), got, e, 0, wantE)
		}
	}
	for i, c := range wrongTypes() {
		what := fmt.Sprintf("%+v", c.y)
		least, e := limits.LeastOf(c.y)
		wantResult(t, "LeastOf of "+what, least, e, api.Value{}, c.e)
		for _, other := range []api.Type{{}, limited(api.TypeInt, nil), wrongTypes()[(i+1)%len(wrongTypes())].y} {
			got, e := limits.OutsideOf(c.y, other)
			wantResult(t, "OutsideOf of "+what, got, e, 0, c.e)
		}
		for _, other := range []api.Type{{}, limited(api.TypeInt, nil), limited(api.TypeList, nil)} {
			got, e := limits.OutsideOf(other, c.y)
			wantResult(t, "OutsideOf behind "+what, got, e, 0, c.e)
		}
	}
}
