package limits_test

import (
	"fmt"
	"testing"

	"examiner/api"
	"examiner/limits"
)

// evens returns so many spans of one even number each, from a number on.
func evens(first, n int) []api.Span {
	var l []api.Span
	for i := range n {
		l = append(l, api.Span{Low: first + 2*i, High: first + 2*i})
	}
	return l
}

// P4.3: which spans are right.
func TestSpans(t *testing.T) {
	const largest = api.MaxInteger
	for _, l := range [][]api.Span{nil, spansIn("0"), spansIn("MIN..MAX"), spansIn("MIN 0 MAX"), spansIn("-5..-3 -1 1..4 6"), evens(0, api.MaxItems)} {
		got, e := limits.CheckSpans(l)
		wantResult(t, fmt.Sprintf("CheckSpans(%v)", l), got, e, len(l), api.OK)
	}
	for _, c := range []struct {
		l     []api.Span
		index int
		e     api.Errno
	}{
		{evens(0, api.MaxItems+1), 0, api.ErrLarge},
		{append(spansIn("2..1"), evens(0, api.MaxItems)...), 0, api.ErrLarge},
		{spansIn("2..1"), 0, api.ErrRange},
		{spansIn("1 5..4"), 1, api.ErrRange},
		{[]api.Span{{Low: -largest - 1}}, 0, api.ErrRange},
		{[]api.Span{{Low: 1, High: largest + 1}}, 0, api.ErrRange},
		{[]api.Span{{Low: largest + 1, High: largest + 2}}, 0, api.ErrRange},
		{[]api.Span{{Low: -1 << 63, High: 1<<63 - 1}}, 0, api.ErrRange},
		{spansIn("1 2"), 1, api.ErrOrder},
		{spansIn("1 1"), 1, api.ErrOrder},
		{spansIn("1 0"), 1, api.ErrOrder},
		{spansIn("1 3..5 6..7"), 2, api.ErrOrder},
		{spansIn("1 3..5 4..9"), 2, api.ErrOrder},
		{spansIn("MAX MIN"), 1, api.ErrOrder},
		{spansIn("1 1 2..1"), 1, api.ErrOrder},
		{spansIn("1 0..-1 1"), 1, api.ErrRange},
	} {
		got, e := limits.CheckSpans(c.l)
		wantResult(t, fmt.Sprintf("CheckSpans(%v)", c.l), got, e, c.index, c.e)
	}
}

// P4.3: what is combined.
func TestCombined(t *testing.T) {
	for _, c := range []struct{ a, b, union, both, without string }{
		{"", "", "", "", ""},
		{"1..3", "", "1..3", "", "1..3"},
		{"", "1..3", "1..3", "", ""},
		{"1..3", "1..3", "1..3", "1..3", ""},
		{"1..3", "4..5", "1..5", "", "1..3"},
		{"1..3", "5", "1..3 5", "", "1..3"},
		{"4..5", "1..3", "1..5", "", "4..5"},
		{"1..9", "3..4", "1..9", "3..4", "1..2 5..9"},
		{"3..4", "1..9", "1..9", "3..4", ""},
		{"1..5", "3..9", "1..9", "3..5", "1..2"},
		{"0..3 5", "4", "0..5", "", "0..3 5"},
		{"-9..-7 -5..5 7..9", "-8 -5 0 5..7", "-9..-7 -5..9", "-8 -5 0 5 7", "-9 -7 -4..-1 1..4 8..9"},
		{"MIN..MAX", "0", "MIN..MAX", "0", "MIN..-1 1..MAX"},
		{"MIN..0", "1..MAX", "MIN..MAX", "", "MIN..0"},
		{"MIN MAX", "MIN..MAX", "MIN..MAX", "MIN MAX", ""},
	} {
		for op, want := range []string{c.union, c.both, c.without} {
			got, e := limits.Combined(op, spansIn(c.a), spansIn(c.b))
			wantResult(t, fmt.Sprintf("Combined(%d, %q, %q)", op, c.a, c.b), got, e, spansIn(want), api.OK)
		}
	}
}

// P4.3: the errors of Combined, and their order.
func TestErrorsOfCombined(t *testing.T) {
	wrong, order, large := spansIn("2..1"), spansIn("1 1"), evens(0, api.MaxItems+1)
	for _, c := range []struct {
		op   int
		a, b []api.Span
		e    api.Errno
	}{
		{-1, wrong, order, api.ErrKind}, {api.SpanOps, large, large, api.ErrKind},
		{api.SpanUnion, wrong, order, api.ErrRange}, {api.SpanBoth, order, wrong, api.ErrOrder}, {api.SpanWithout, nil, wrong, api.ErrRange},
		{api.SpanBoth, large, nil, api.ErrLarge}, {api.SpanBoth, nil, large, api.ErrLarge}, {api.SpanBoth, large, wrong, api.ErrLarge}, {api.SpanBoth, wrong, large, api.ErrRange},
	} {
		got, e := limits.Combined(c.op, c.a, c.b)
		wantResult(t, fmt.Sprintf("Combined(%d, %v, %v)", c.op, c.a, c.b), got, e, spansIn(""), c.e)
	}
}

// P4.3: how many spans there may be.
func TestManySpans(t *testing.T) {
	for _, c := range []struct {
		op   int
		a, b []api.Span
		want int
	}{
		{api.SpanUnion, evens(0, 20), evens(1000, 20), 40}, {api.SpanUnion, evens(0, 20), evens(1000, 21), 41}, {api.SpanUnion, evens(0, 40), evens(1000, 40), 80},
		{api.SpanBoth, threes(0, 21), threes(2, 20), 40}, {api.SpanBoth, threes(0, 21), threes(2, 21), 41},
		{api.SpanWithout, spansIn("0..1000"), evens(2, 39), 40}, {api.SpanWithout, spansIn("0..1000"), evens(2, 40), 41}, {api.SpanWithout, evens(0, 40), spansIn("1..9"), 36},
		{api.SpanUnion, evens(0, 40), evens(1, 40), 1}, {api.SpanBoth, evens(0, 40), evens(1, 40), 0},
	} {
		got, e := limits.Combined(c.op, c.a, c.b)
		wantE := api.OK
		if c.want > api.MaxItems {
			c.want, wantE = 0, api.ErrLarge
		}
		wantResult(t, fmt.Sprintf("Combined(%d, %v, %v)", c.op, c.a, c.b), len(got), e, c.want, wantE)
	}
}

// threes returns so many spans of three numbers each, from a number on, with one number between two of them.
func threes(first, n int) []api.Span {
	var l []api.Span
	for i := range n {
		l = append(l, api.Span{Low: first + 4*i, High: first + 4*i + 2})
	}
	return l
}

// P4.3: the numbers that constraints permit.
func TestSpansOfTypes(t *testing.T) {
	for text, want := range map[string]string{
		"INTEGER":                            "MIN..MAX",
		"INTEGER (0..3 | 5..5 | 4..4)":       "0..5",
		"INTEGER (0..3 | 5)":                 "0..3 5",
		"INTEGER (1..5, ..., 8)":             "1..5 8",
		"INTEGER (1..5, ..., 6)":             "1..6",
		"INTEGER (1..5, ...)":                "1..5",
		"INTEGER (1..5 EXCEPT 1..5)":         "",
		"INTEGER (MIN..MAX EXCEPT (0 | 3))":  "MIN..-1 1..2 4..MAX",
		"INTEGER (1 ^ 2 | 3 EXCEPT 3)":       "",
		"SEQUENCE OF NULL":                   "0..40",
		"SET OF NULL":                        "0..40",
		"SEQUENCE (SIZE (1..2 | 4)) OF NULL": "1..2 4",
		"SET (SIZE (0..9) EXCEPT SIZE (3), ..., SIZE (10)) OF NULL":   "0..2 4..10",
		"SEQUENCE (SIZE (0..9 EXCEPT 3) ^ SIZE (2..5), ...) OF NULL":  "2 4..5",
		"SEQUENCE (SIZE (1)) OF SEQUENCE (SIZE (2)) OF INTEGER (3)":   "1",
		"SEQUENCE (SIZE (1) ^ SIZE (2)) OF NULL":                      "",
		"INTEGER (MIN | MAX | 5 | 3 | 1 | -1 | -3 | 7 | 9 | 11, ...)": "MIN -3 -1 1 3 5 7 9 11 MAX",
	} {
		got, e := limits.SpansOf(typeOf(t, text))
		wantResult(t, "SpansOf "+text, got, e, spansIn(want), api.OK)
	}
}

// P4.3: the errors of SpansOf.
func TestErrorsOfSpansOf(t *testing.T) {
	for _, y := range someTypes() {
		if y.Kind == api.TypeInt || y.Kind == api.TypeList || y.Kind == api.TypeBag {
			continue
		}
		got, e := limits.SpansOf(y)
		wantResult(t, fmt.Sprintf("SpansOf of kind %d", y.Kind), got, e, spansIn(""), api.ErrKind)
	}
	for _, c := range wrongTypes() {
		got, e := limits.SpansOf(c.y)
		wantResult(t, fmt.Sprintf("SpansOf of %+v", c.y), got, e, spansIn(""), c.e)
	}
}

type wrongType struct {
	y api.Type
	e api.Errno
}

// wrongTypes are types with errors, of all kinds that may have a constraint.
func wrongTypes() []wrongType {
	shapeless := append(span(1, 1), span(2, 2)...)
	return []wrongType{
		{limited(api.TypeInt, shapeless), api.ErrShape}, {limited(api.TypeInt, span(2, 1)), api.ErrRange}, {limited(api.TypeInt, union(span(1, 1), size(span(1, 1)))), api.ErrType},
		{limited(api.TypeInt, union(span(1, 1), marker(span(1, 1)))), api.ErrState}, {limited(api.TypeRef, span(1, 1)), api.ErrKind}, {stringType("String", nil), api.ErrName},
		{limited(api.TypeChars, span(1, 1)), api.ErrType}, {limited(api.TypeBits, text("2")), api.ErrType}, {limited(api.TypeOctets, from(text("a"))), api.ErrType},
		{limited(api.TypeList, size(span(0, api.MaxItems+1))), api.ErrRange}, {limited(api.TypeBag, text("")), api.ErrType}, {limited(api.TypeNull, span(1, 1)), api.ErrForm},
	}
}
