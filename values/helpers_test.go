package values_test

import (
	"fmt"
	"reflect"
	"strings"
	"testing"

	"examiner/api"
	"examiner/notation"
	"examiner/values"
)

// alike is equality, where a nil slice and an empty one are the same.
func alike(a, b any) bool { return alikeValues(reflect.ValueOf(a), reflect.ValueOf(b)) }

func alikeValues(a, b reflect.Value) bool {
	switch a.Kind() {
	case reflect.Slice:
		if a.Len() != b.Len() {
			return false
		}
		for i := range a.Len() {
			if !alikeValues(a.Index(i), b.Index(i)) {
				return false
			}
		}
		return true
	case reflect.Struct:
		for i := range a.NumField() {
			if !alikeValues(a.Field(i), b.Field(i)) {
				return false
			}
		}
		return true
	}
	return a.Equal(b)
}

// wantResult compares a result and an error with those that must be.
func wantResult(t *testing.T, what string, got any, e api.Errno, want any, wantE api.Errno) {
	t.Helper()
	if e != wantE || !alike(got, want) {
		t.Errorf("%.300s: %s, error %d, want %s, %d", what, short(got), e, short(want), wantE)
	}
}

// short returns the beginning of the text of something.
func short(x any) string { return fmt.Sprintf("%.300s", fmt.Sprintf("%+v", x)) }

// typeOf returns the type that has a text.
func typeOf(t *testing.T, text string) api.Type {
	t.Helper()
	y, at, e := notation.ParseType(text)
	if e != api.OK {
		t.Fatalf("ParseType(%q): place %d, error %d", text, at, e)
	}
	return y
}

// schemaOf returns the types that have texts such as "A ::= INTEGER".
func schemaOf(t *testing.T, lines ...string) api.Schema {
	t.Helper()
	var s api.Schema
	for _, line := range lines {
		name, text, _ := strings.Cut(line, " ::= ")
		s = append(s, api.Named{Name: name, Type: typeOf(t, text)})
	}
	return s
}

// plainOf returns the plain value that has a text.
func plainOf(t *testing.T, text string) api.Value {
	t.Helper()
	v, at, e := notation.ParsePlain(text)
	if e != api.OK {
		t.Fatalf("ParsePlain(%q): place %d, error %d", text, at, e)
	}
	return v
}

// valueOf returns the value of a type that has a text, also if it does not fit for another reason than its text.
func valueOf(t *testing.T, s api.Schema, y api.Type, text string) api.Value {
	t.Helper()
	v, at, e := values.ParseValue(s, y, text)
	if e != api.OK {
		t.Fatalf("ParseValue(%q): place %d, error %d", text, at, e)
	}
	return v
}

func number(n int) api.Value    { return api.Value{Kind: api.ValueInt, N: n} }
func enum(s string) api.Value   { return api.Value{Kind: api.ValueEnum, S: s} }
func chars(s string) api.Value  { return api.Value{Kind: api.ValueChars, S: s} }
func octets(s string) api.Value { return api.Value{Kind: api.ValueOctets, S: s} }

func list(l ...api.Value) api.Value { return api.Value{Kind: api.ValueList, Items: l} }
func bag(l ...api.Value) api.Value  { return api.Value{Kind: api.ValueBag, Items: l} }
func record(names string, l ...api.Value) api.Value {
	return api.Value{Kind: api.ValueRecord, Names: strings.Fields(names), Items: l}
}
func union(name string, v api.Value) api.Value {
	return api.Value{Kind: api.ValueUnion, Names: []string{name}, Items: []api.Value{v}}
}
func open(name string, v api.Value) api.Value {
	return api.Value{Kind: api.ValueOpen, S: name, Items: []api.Value{v}}
}
func oid(l ...int) api.Value {
	v := api.Value{Kind: api.ValueOid}
	for _, n := range l {
		v.Items = append(v.Items, number(n))
	}
	return v
}

// numbers returns so many numbers, beginning with 0.
func numbers(n int) []api.Value {
	var l []api.Value
	for i := range n {
		l = append(l, number(i))
	}
	return l
}

// deepList returns lists so many values deep, the last one with nothing in it.
func deepList(depth int) api.Value {
	v := list()
	for range depth - 1 {
		v = list(v)
	}
	return v
}

func ref(name string) api.Type { return api.Type{Kind: api.TypeRef, Name: name} }

// listType returns a type of lists, bagType one of bags.
func listType(of api.Type) api.Type { return api.Type{Kind: api.TypeList, Of: []api.Type{of}} }
func bagType(of api.Type) api.Type  { return api.Type{Kind: api.TypeBag, Of: []api.Type{of}} }

// withDefault returns a type in which a field has another default, perhaps one that has no plain text.
func withDefault(y api.Type, field string, v api.Value) api.Type {
	y.Fields = append([]api.Field{}, y.Fields...)
	for i := range y.Fields {
		if y.Fields[i].Name == field {
			y.Fields[i].Presence = api.FieldDefault
			y.Fields[i].Default = []api.Value{v}
		}
	}
	return y
}

// circles are types whose references lead nowhere: in a circle, and in one that adds tags.
func circles(t *testing.T) api.Schema {
	return schemaOf(t, "L ::= L", "M ::= N", "N ::= M", "X ::= [1] X", "Y ::= [1] [2] [3] Z", "Z ::= [4] [5] [6] NULL")
}

// someTypes are types of all kinds without constraints.
func someTypes() []api.Type {
	named := []api.Field{{Name: "a"}}
	out := []api.Type{
		{}, {Kind: api.TypeBool}, {Kind: api.TypeInt}, {Kind: api.TypeEnum, Fields: named, Root: 1}, {Kind: api.TypeBits}, {Kind: api.TypeOctets},
		{Kind: api.TypeChars, Name: api.Ia5}, {Kind: api.TypeOid}, {Kind: api.TypeReal}, {Kind: api.TypeRecord, Fields: named, Root: 1}, {Kind: api.TypeSet, Fields: named, Root: 1},
		listType(api.Type{}), bagType(api.Type{}), {Kind: api.TypeUnion, Fields: named, Root: 1}, {Kind: api.TypeOpen},
	}
	return out
}

// someValues are values of all kinds.
func someValues() []api.Value {
	null := api.Value{}
	return []api.Value{
		null, {Kind: api.ValueBool, N: 1}, number(5), enum("a"), {Kind: api.ValueBits, S: "01"}, octets("\xff"), chars("x"),
		oid(1, 2), {Kind: api.ValueReal, N: 3, E: 1}, record("a", null), list(null, null), bag(null, null), union("a", null), open("", octets("\x05\x00")), {Kind: api.ValueVerdict, N: 1},
	}
}
