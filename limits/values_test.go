package limits_test

import (
	"fmt"
	"strings"
	"testing"

	"examiner/api"
	"examiner/limits"
)

// wantPermitted checks whether a value is permitted, and whether it is in the root.
func wantPermitted(t *testing.T, what string, y api.Type, v api.Value, permitted, inRoot bool, wantE api.Errno) {
	t.Helper()
	got, e := limits.Permits(y, v)
	wantResult(t, "Permits of "+what, got, e, permitted, wantE)
	got, e = limits.InRoot(y, v)
	wantResult(t, "InRoot of "+what, got, e, inRoot, wantE)
}

// P4.2: what is permitted, and what is in the root.
func TestPermitted(t *testing.T) {
	for _, c := range []struct {
		text              string
		v                 api.Value
		permitted, inRoot bool
	}{
		{"INTEGER (1..5, ..., 8)", number(8), true, false},
		{"INTEGER (1..5, ..., 8)", number(7), false, false},
		{"INTEGER (1..5, ..., 8)", number(5), true, true},
		{"INTEGER (1..5, ...)", number(6), false, false},
		{"INTEGER (1..5, ...)", number(1), true, true},
		{"INTEGER (1..5, ..., 3..8)", number(3), true, true},
		{"INTEGER (0..3 | 5)", number(5), true, true},
		{"INTEGER (0..3 | 5)", number(4), false, false},
		{"INTEGER (0..3 ^ 2..5)", number(2), true, true},
		{"INTEGER (0..3 ^ 2..5)", number(1), false, false},
		{"INTEGER (0..3 ^ 2..5)", number(4), false, false},
		{"INTEGER (0..3 EXCEPT 2)", number(3), true, true},
		{"INTEGER (0..3 EXCEPT 2)", number(2), false, false},
		{"INTEGER (MIN..-1)", number(-api.MaxInteger), true, true},
		{"IA5String (\"abc\")", chars("abc"), true, true},
		{"IA5String (\"abc\")", chars("abcd"), false, false},
		{"IA5String (SIZE (2..3))", chars("abc"), true, true},
		{"IA5String (SIZE (2..3))", chars("a"), false, false},
		{"IA5String (SIZE (1 | 3 EXCEPT 3))", chars("abc"), false, false},
		{"IA5String (FROM (\"a\"..\"c\"))", chars("abcabc"), true, true},
		{"IA5String (FROM (\"a\"..\"c\"))", chars("abcd"), false, false},
		{"IA5String (FROM (\"a\"..\"c\"))", chars(""), true, true},
		{"IA5String (FROM (\"ab\" | \"c\"))", chars("cba"), true, true},
		{"IA5String (FROM (\"a\"..\"c\") EXCEPT \"a\")", chars(""), true, true},
		{"IA5String (FROM (\"a\"..\"c\") EXCEPT \"a\")", chars("a"), false, false},
		{"IA5String (FROM (\"a\"..\"c\") EXCEPT \"a\")", chars("aa"), true, true},
		{"IA5String (FROM (\"a\"..\"c\" EXCEPT \"a\"))", chars("aa"), false, false},
		{"IA5String (SIZE (2) | \"abc\")", chars("abc"), true, true},
		{"IA5String (SIZE (2) | \"abc\")", chars("abd"), false, false},
		{"IA5String (SIZE (1), ..., FROM (\"a\"))", chars("aa"), true, false},
		{"IA5String (SIZE (1), ..., FROM (\"a\"))", chars("b"), true, true},
		{"IA5String (SIZE (1), ..., FROM (\"a\"))", chars("ab"), false, false},
		{"BIT STRING (SIZE (3) ^ '101'B)", bits("101"), true, true},
		{"BIT STRING (SIZE (3) EXCEPT '101'B)", bits("101"), false, false},
		{"BIT STRING (SIZE (3) EXCEPT '101'B)", bits("100"), true, true},
		{"OCTET STRING (SIZE (2), ..., '00'H)", octets("\x00\xff"), true, true},
		{"OCTET STRING (SIZE (2), ..., '00'H)", octets("\x00"), true, false},
		{"OCTET STRING (SIZE (2), ..., '00'H)", octets("\x01"), false, false},
		{"SEQUENCE (SIZE (1..2)) OF INTEGER", list(2), true, true},
		{"SEQUENCE (SIZE (1..2)) OF INTEGER", list(3), false, false},
		{"SET (SIZE (1..3) EXCEPT SIZE (2), ..., SIZE (0)) OF INTEGER", bag(0), true, false},
		{"SET (SIZE (1..3) EXCEPT SIZE (2), ..., SIZE (0)) OF INTEGER", bag(2), false, false},
		{"SET (SIZE (1..3) EXCEPT SIZE (2), ..., SIZE (0)) OF INTEGER", bag(3), true, true},
	} {
		wantPermitted(t, c.text+fmt.Sprintf(" for %+v", c.v), typeOf(t, c.text), c.v, c.permitted, c.inRoot, api.OK)
	}
}

// P4.2: without a constraint each value of the type's kind is permitted, and no other one has this type.
func TestKindsOfValues(t *testing.T) {
	kinds := [api.TypeKinds]int{0, 1, 2, 3, 4, 5, 6, 7, 8, 9, 9, 10, 11, 12, 13, api.None}
	for _, y := range someTypes() {
		for _, v := range someValues() {
			what := fmt.Sprintf("kind %d for kind %d", y.Kind, v.Kind)
			if v.Kind == kinds[y.Kind] {
				wantPermitted(t, what, y, v, true, true, api.OK)
			} else {
				wantPermitted(t, what, y, v, false, false, api.ErrType)
			}
		}
	}
}

// P4.2: the greatest values are permitted where nothing is said.
func TestGreatestValues(t *testing.T) {
	long := strings.Repeat("1", api.MaxString)
	for i, c := range []struct {
		y api.Type
		v api.Value
	}{
		{limited(api.TypeInt, nil), number(api.MaxInteger)}, {limited(api.TypeInt, nil), number(-api.MaxInteger)},
		{limited(api.TypeBits, nil), bits(long)}, {limited(api.TypeOctets, nil), octets(long)}, {limited(api.TypeChars, nil), chars(long)},
		{limited(api.TypeList, nil), list(api.MaxItems)}, {limited(api.TypeBag, nil), bag(api.MaxItems)},
	} {
		wantPermitted(t, fmt.Sprintf("value %d", i), c.y, c.v, true, true, api.OK)
	}
}

// P4.2: the errors, and their order.
func TestErrorsOfValues(t *testing.T) {
	wrongType := api.Type{Kind: api.TypeInt, Limits: append(span(1, 2), span(1, 2)...)}
	wrongLimits := limited(api.TypeInt, union(span(1, 1), text("")))
	wrongValue := number(api.MaxInteger + 1)
	wantPermitted(t, "a wrong type", wrongType, wrongValue, false, false, api.ErrShape)
	wantPermitted(t, "a wrong constraint", wrongLimits, wrongValue, false, false, api.ErrType)
	wantPermitted(t, "a wrong range", limited(api.TypeInt, span(2, 1)), wrongValue, false, false, api.ErrRange)
	wantPermitted(t, "nodes of a reference", limited(api.TypeRef, span(1, 2)), wrongValue, false, false, api.ErrKind)
	wantPermitted(t, "a wrong value", limited(api.TypeBool, nil), wrongValue, false, false, api.ErrRange)
	wantPermitted(t, "a wrong value within it", limited(api.TypeBool, nil), api.Value{Kind: api.ValueList, Items: []api.Value{wrongValue}}, false, false, api.ErrRange)
	wantPermitted(t, "another kind", limited(api.TypeInt, span(1, 1)), bits("1"), false, false, api.ErrType)
	for name, s := range map[string]string{api.Numeric: "5a", api.Printable: "a_", api.Visible: "a\x7f"} {
		wantPermitted(t, name, stringType(name, nil), chars(s), false, false, api.ErrType)
		wantPermitted(t, name+" with a constraint", stringType(name, size(span(0, 1))), chars(s), false, false, api.ErrType)
	}
	wantPermitted(t, "a character above all", limited(api.TypeChars, nil), chars("\x80"), false, false, api.ErrType)
	wantPermitted(t, "values within it", typeOf(t, "SEQUENCE OF INTEGER"), list(2), true, true, api.OK)
	wantPermitted(t, "names within it", typeOf(t, "SEQUENCE {b NULL}"), someValues()[9], true, true, api.OK)
}
