package notation_test

import (
	"reflect"
	"strings"
	"testing"

	"examiner/api"
	"examiner/notation"
)

// alike is equality, where a nil slice and an empty one are the same.
func alike(a, b any) bool { return alikeValues(reflect.ValueOf(a), reflect.ValueOf(b)) }

func alikeValues(a, b reflect.Value) bool {
	switch a.Kind() {
	case reflect.Slice:
		if a.Len() != b.Len() {
			return false
		}
		for i := range a.Len() {
			if !alikeValues(a.Index(i), b.Index(i)) {
				return false
			}
		}
		return true
	case reflect.Struct:
		for i := range a.NumField() {
			if !alikeValues(a.Field(i), b.Field(i)) {
				return false
			}
		}
		return true
	}
	return a.Equal(b)
}

func wantErr(t *testing.T, what string, e, want api.Errno) {
	t.Helper()
	if e != want {
		t.Errorf("%s: error %d, want %d", what, e, want)
	}
}

// typeOf fails the test unless a text is read as a type.
func typeOf(t *testing.T, s string) api.Type {
	t.Helper()
	y, n, e := notation.ParseType(s)
	if n != len(s) || e != api.OK {
		t.Fatalf("ParseType(%q): place %d, error %d", s, n, e)
	}
	return y
}

// plainOf fails the test unless a text is read as a plain value.
func plainOf(t *testing.T, s string) api.Value {
	t.Helper()
	v, n, e := notation.ParsePlain(s)
	if n != len(s) || e != api.OK {
		t.Fatalf("ParsePlain(%q): place %d, error %d", s, n, e)
	}
	return v
}

// moduleOf fails the test unless a text is read as a module.
func moduleOf(t *testing.T, s string) api.AsnModule {
	t.Helper()
	m, n, e := notation.ParseModule(s)
	if n != len(s) || e != api.OK {
		t.Fatalf("ParseModule(%q): place %d, error %d", s, n, e)
	}
	return m
}

// wholeModule returns the text of a module with some items.
func wholeModule(items string) string {
	return "M DEFINITIONS AUTOMATIC TAGS ::= BEGIN\nEXPORTS ALL;\n" + items + "\nEND"
}

func null() api.Type           { return api.Type{} }
func kind(k int) api.Type      { return api.Type{Kind: k} }
func ref(name string) api.Type { return api.Type{Kind: api.TypeRef, Name: name} }

func number(n int) api.Value    { return api.Value{Kind: api.ValueInt, N: n} }
func truth(n int) api.Value     { return api.Value{Kind: api.ValueBool, N: n} }
func enum(s string) api.Value   { return api.Value{Kind: api.ValueEnum, S: s} }
func chars(s string) api.Value  { return api.Value{Kind: api.ValueChars, S: s} }
func bits(s string) api.Value   { return api.Value{Kind: api.ValueBits, S: s} }
func octets(s string) api.Value { return api.Value{Kind: api.ValueOctets, S: s} }
func real(n, e int) api.Value   { return api.Value{Kind: api.ValueReal, N: n, E: e} }

func items(kind int, l ...api.Value) api.Value { return api.Value{Kind: kind, Items: l} }
func list(l ...api.Value) api.Value            { return items(api.ValueList, l...) }
func oid(l ...int) api.Value {
	v := api.Value{Kind: api.ValueOid}
	for _, n := range l {
		v.Items = append(v.Items, number(n))
	}
	return v
}
func union(name string, v api.Value) api.Value {
	return api.Value{Kind: api.ValueUnion, Names: []string{name}, Items: []api.Value{v}}
}
func open(name string, v api.Value) api.Value {
	return api.Value{Kind: api.ValueOpen, S: name, Items: []api.Value{v}}
}
func record(names string, l ...api.Value) api.Value {
	return api.Value{Kind: api.ValueRecord, Names: strings.Fields(names), Items: l}
}

// fields returns a type of a kind with fields, all of which are in the root.
func fields(kind int, l ...api.Field) api.Type {
	return api.Type{Kind: kind, Fields: l, Root: len(l)}
}

// opened returns a type with a marker behind so many fields.
func opened(t api.Type, root int) api.Type {
	t.Open = true
	t.Root = root
	return t
}

func field(name string, t api.Type) api.Field { return api.Field{Name: name, Type: t} }
func grouped(f api.Field, group int) api.Field {
	f.Group = group
	return f
}
func optional(f api.Field) api.Field {
	f.Presence = api.FieldOptional
	return f
}
func defaulted(f api.Field, v ...api.Value) api.Field {
	f.Presence = api.FieldDefault
	f.Default = v
	return f
}
func item(name string, number int) api.Field { return api.Field{Name: name, Number: number} }

// actual returns a reference with actual parameters.
func actual(name string, l ...api.Type) api.Type {
	t := ref(name)
	for _, y := range l {
		t.Fields = append(t.Fields, api.Field{Type: y})
	}
	return t
}

// classField returns an open type: the field of a class, the object set, and perhaps the component.
func classField(name string, rest ...string) api.Type {
	t := api.Type{Kind: api.TypeOpen, Name: name}
	for _, s := range rest {
		t.Fields = append(t.Fields, api.Field{Name: s})
	}
	return t
}

func tagged(t api.Type, l ...api.Tag) api.Type {
	t.Tags = l
	return t
}
func context(number, way int) api.Tag {
	return api.Tag{Class: api.ClassContext, Number: number, Way: way}
}

func listOf(t api.Type) api.Type { return api.Type{Kind: api.TypeList, Of: []api.Type{t}} }

// deepList returns lists so many types deep.
func deepList(depth int) api.Type {
	t := null()
	for range depth - 1 {
		t = listOf(t)
	}
	return t
}

// deepValue returns lists so many values deep.
func deepValue(depth int) api.Value {
	v := number(0)
	for range depth - 1 {
		v = list(v)
	}
	return v
}

func limited(t api.Type, l ...api.Limit) api.Type {
	t.Limits = l
	return t
}
func span(low, high int) api.Limit { return api.Limit{Kind: api.LimitRange, Low: low, High: high} }
func text(s string) api.Limit      { return api.Limit{Kind: api.LimitText, Text: s} }
func node(kind int, args ...int) api.Limit {
	return api.Limit{Kind: kind, Args: args}
}
func stringType(name string) api.Type { return api.Type{Kind: api.TypeChars, Name: name} }

// chain returns a constraint of so many numbers joined from the left by operators.
func chain(kind, numbers int) api.Limits {
	l := api.Limits{span(0, 0)}
	for i := 1; i < numbers; i++ {
		l = append(l, span(i, i), node(kind, len(l)-1, len(l)))
	}
	return l
}
