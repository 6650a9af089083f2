package limits_test

import (
	"reflect"
	"strconv"
	"strings"
	"testing"

	"examiner/api"
	"examiner/notation"
)

// alike is equality, where a nil slice and an empty one are the same.
func alike(a, b any) bool { return alikeValues(reflect.ValueOf(a), reflect.ValueOf(b)) }

func alikeValues(a, b reflect.Value) bool {
	switch a.Kind() {
	case reflect.Slice:
		if a.Len() != b.Len() {
			return false
		}
		for i := range a.Len() {
			if !alikeValues(a.Index(i), b.Index(i)) {
				return false
			}
		}
		return true
	case reflect.Struct:
		for i := range a.NumField() {
			if !alikeValues(a.Field(i), b.Field(i)) {
				return false
			}
		}
		return true
	}
	return a.Equal(b)
}

// wantResult compares a result and an error with those that must be.
func wantResult(t *testing.T, what string, got any, e api.Errno, want any, wantE api.Errno) {
	t.Helper()
	if e != wantE || !alike(got, want) {
		t.Errorf("%s: %+v, error %d, want %+v, %d", what, got, e, want, wantE)
	}
}

// typeOf returns the type that has a text.
func typeOf(t *testing.T, text string) api.Type {
	t.Helper()
	y, at, e := notation.ParseType(text)
	if e != api.OK {
		t.Fatalf("ParseType(%q): place %d, error %d", text, at, e)
	}
	return y
}

// spansIn returns the spans that have a text, such as "-3..5 7".
func spansIn(text string) []api.Span {
	var l []api.Span
	for _, word := range strings.Fields(text) {
		low, high, isRange := strings.Cut(word, "..")
		if !isRange {
			high = low
		}
		l = append(l, api.Span{Low: endIn(low), High: endIn(high)})
	}
	return l
}

func endIn(text string) int {
	switch text {
	case "MIN":
		return -api.MaxInteger
	case "MAX":
		return api.MaxInteger
	}
	n, _ := strconv.Atoi(text)
	return n
}

// Constraints, made of their parts.
func span(low, high int) api.Limits { return api.Limits{{Low: low, High: high}} }
func text(s string) api.Limits      { return api.Limits{{Kind: api.LimitText, Text: s}} }

// node returns a constraint of a node and its operands.
func node(kind int, operands ...api.Limits) api.Limits {
	var out api.Limits
	var roots []int
	for _, operand := range operands {
		before := len(out)
		for _, n := range operand {
			var args []int
			for _, arg := range n.Args {
				args = append(args, arg+before)
			}
			n.Args = args
			out = append(out, n)
		}
		roots = append(roots, len(out)-1)
	}
	return append(out, api.Limit{Kind: kind, Args: roots})
}

func size(l api.Limits) api.Limits       { return node(api.LimitSize, l) }
func from(l api.Limits) api.Limits       { return node(api.LimitFrom, l) }
func union(a, b api.Limits) api.Limits   { return node(api.LimitUnion, a, b) }
func both(a, b api.Limits) api.Limits    { return node(api.LimitBoth, a, b) }
func without(a, b api.Limits) api.Limits { return node(api.LimitWithout, a, b) }

// marker returns a constraint that can be extended, perhaps with additions.
func marker(operands ...api.Limits) api.Limits { return node(api.LimitMarker, operands...) }

// limited returns a type of a kind with a constraint.
func limited(kind int, l api.Limits) api.Type {
	y := api.Type{Kind: kind, Limits: l}
	switch kind {
	case api.TypeChars:
		y.Name = api.Ia5
	case api.TypeList, api.TypeBag:
		y.Of = make([]api.Type, 1)
	case api.TypeRef:
		y.Name = "T"
	}
	return y
}

// stringType returns a type of strings of characters with a constraint.
func stringType(name string, l api.Limits) api.Type {
	return api.Type{Kind: api.TypeChars, Name: name, Limits: l}
}

func number(n int) api.Value    { return api.Value{Kind: api.ValueInt, N: n} }
func bits(s string) api.Value   { return api.Value{Kind: api.ValueBits, S: s} }
func octets(s string) api.Value { return api.Value{Kind: api.ValueOctets, S: s} }
func chars(s string) api.Value  { return api.Value{Kind: api.ValueChars, S: s} }

// list returns a list of so many items, bag a bag.
func list(n int) api.Value { return api.Value{Kind: api.ValueList, Items: make([]api.Value, n)} }
func bag(n int) api.Value  { return api.Value{Kind: api.ValueBag, Items: make([]api.Value, n)} }

// someTypes are types of all kinds without constraints.
func someTypes() []api.Type {
	named := []api.Field{{Name: "a"}}
	return []api.Type{
		{}, {Kind: api.TypeBool}, {Kind: api.TypeInt}, {Kind: api.TypeEnum, Fields: named, Root: 1}, {Kind: api.TypeBits}, {Kind: api.TypeOctets},
		stringType(api.Numeric, nil), stringType(api.Printable, nil), stringType(api.Visible, nil), stringType(api.Ia5, nil),
		{Kind: api.TypeOid}, {Kind: api.TypeReal}, {Kind: api.TypeRecord, Fields: named, Root: 1}, {Kind: api.TypeSet, Fields: named, Root: 1},
		limited(api.TypeList, nil), limited(api.TypeBag, nil), {Kind: api.TypeUnion, Fields: named, Root: 1}, {Kind: api.TypeOpen}, limited(api.TypeRef, nil),
	}
}

// someValues are values of all kinds.
func someValues() []api.Value {
	named := []string{"a"}
	null := make([]api.Value, 1)
	return []api.Value{
		{}, {Kind: api.ValueBool, N: 1}, number(5), {Kind: api.ValueEnum, S: "other"}, bits("01"), octets("\xff"), chars("5"),
		{Kind: api.ValueOid, Items: []api.Value{number(1), number(2)}}, {Kind: api.ValueReal, N: 3, E: 1},
		{Kind: api.ValueRecord, Names: named, Items: null}, list(2), bag(2), {Kind: api.ValueUnion, Names: named, Items: null},
		{Kind: api.ValueOpen, S: "T", Items: null}, {Kind: api.ValueVerdict, N: 1},
	}
}
