package objects_test

import (
	"fmt"
	"reflect"
	"strings"
	"testing"

	"examiner/api"
	"examiner/notation"
	"examiner/objects"
)

// alike is equality, where a nil slice and an empty one are the same.
func alike(a, b any) bool { return alikeValues(reflect.ValueOf(a), reflect.ValueOf(b)) }

func alikeValues(a, b reflect.Value) bool {
	switch a.Kind() {
	case reflect.Slice:
		if a.Len() != b.Len() {
			return false
		}
		for i := range a.Len() {
			if !alikeValues(a.Index(i), b.Index(i)) {
				return false
			}
		}
		return true
	case reflect.Struct:
		for i := range a.NumField() {
			if !alikeValues(a.Field(i), b.Field(i)) {
				return false
			}
		}
		return true
	}
	return a.Equal(b)
}

// wantResult compares a result and an error with those that must be.
func wantResult(t *testing.T, what string, got any, e api.Errno, want any, wantE api.Errno) {
	t.Helper()
	if e != wantE || !alike(got, want) {
		t.Errorf("%.500s:\n%s, error %d, want\n%s, %d", what, short(got), e, short(want), wantE)
	}
}

// short returns the beginning of the text of something.
func short(x any) string {
	switch x := x.(type) {
	case []api.AsnModule:
		return fmt.Sprintf("%.1500s", textOf(x))
	case api.Type:
		return fmt.Sprintf("%.600s", typeText(x))
	}
	return fmt.Sprintf("%.600s", fmt.Sprintf("%+v", x))
}

// textOf returns modules as lines.
func textOf(l []api.AsnModule) string {
	var lines []string
	for _, m := range l {
		lines = append(lines, fmt.Sprintf("%s (way %d, all %v) exports %v imports %v", m.Name, m.Way, m.All, m.Exports, m.Imports))
		for _, a := range m.Items {
			line := fmt.Sprintf("  kind %d %s %v ::= %s %+v", a.Kind, a.Name, a.Params, typeText(a.Type), a.Value)
			if a.Kind > api.ItemValue {
				line = fmt.Sprintf("  %+v", a)
			}
			lines = append(lines, line)
		}
	}
	return strings.Join(lines, "\n")
}

// typeText returns the text of a type, or what it has.
func typeText(y api.Type) string {
	text, e := notation.FormatType(y)
	if e != api.OK {
		return fmt.Sprintf("%+v", y)
	}
	return text
}

// typeOf returns the type that has a text, where ANY is an open type.
func typeOf(t *testing.T, text string) api.Type {
	t.Helper()
	y, at, e := notation.ParseType(text)
	if e != api.OK {
		t.Fatalf("ParseType(%q): place %d, error %d", text, at, e)
	}
	return withOpen(y)
}

// typesOf returns the types that have texts.
func typesOf(t *testing.T, texts ...string) []api.Type {
	t.Helper()
	var l []api.Type
	for _, text := range texts {
		l = append(l, typeOf(t, text))
	}
	return l
}

// moduleOf returns the module that has a text such as "M AUTOMATIC EXPORTS T; IMPORTS U FROM N; T ::= U" (without EXPORTS all is exported), where ANY is an open type.
func moduleOf(t *testing.T, text string) api.AsnModule {
	t.Helper()
	words := strings.SplitN(text, " ", 3)
	if !strings.HasPrefix(words[2], "EXPORTS") {
		words[2] = "EXPORTS ALL; " + words[2]
	}
	full := words[0] + " DEFINITIONS " + words[1] + " TAGS ::= BEGIN " + words[2] + " END"
	m, at, e := notation.ParseModule(full)
	if e != api.OK {
		t.Fatalf("ParseModule(%q): place %d, error %d", full, at, e)
	}
	for i, a := range m.Items {
		m.Items[i].Type = withOpen(a.Type)
		for j, f := range a.Class {
			for k, y := range f.Fixed {
				a.Class[j].Fixed[k] = withOpen(y)
			}
		}
		for j, g := range a.Settings {
			for k, y := range g.Type {
				a.Settings[j].Type[k] = withOpen(y)
			}
		}
	}
	return m
}

// programOf returns modules that have texts.
func programOf(t *testing.T, texts ...string) []api.AsnModule {
	t.Helper()
	var l []api.AsnModule
	for _, text := range texts {
		l = append(l, moduleOf(t, text))
	}
	return l
}

// withOpen returns a type with open types in the place of references to ANY, which no text has.
func withOpen(y api.Type) api.Type {
	if y.Kind == api.TypeRef && y.Name == "ANY" {
		return api.Type{Kind: api.TypeOpen, Tags: y.Tags}
	}
	for i := range y.Fields {
		y.Fields[i].Type = withOpen(y.Fields[i].Type)
	}
	for i := range y.Of {
		y.Of[i] = withOpen(y.Of[i])
	}
	return y
}

// plainOf returns the plain value that has a text.
func plainOf(t *testing.T, text string) api.Value {
	t.Helper()
	v, at, e := notation.ParsePlain(text)
	if e != api.OK {
		t.Fatalf("ParsePlain(%q): place %d, error %d", text, at, e)
	}
	return v
}

// number returns a whole number as a value, list, bag, record and open return values with items, unnamed an open value without a name.
func number(n int) api.Value        { return api.Value{Kind: api.ValueInt, N: n} }
func chars(s string) api.Value      { return api.Value{Kind: api.ValueChars, S: s} }
func list(l ...api.Value) api.Value { return api.Value{Kind: api.ValueList, Items: l} }
func bag(l ...api.Value) api.Value  { return api.Value{Kind: api.ValueBag, Items: l} }
func record(names string, l ...api.Value) api.Value {
	return api.Value{Kind: api.ValueRecord, Names: strings.Fields(names), Items: l}
}
func union(name string, v api.Value) api.Value {
	return api.Value{Kind: api.ValueUnion, Names: []string{name}, Items: []api.Value{v}}
}
func open(name string, v api.Value) api.Value {
	return api.Value{Kind: api.ValueOpen, S: name, Items: []api.Value{v}}
}
func unnamed(s string) api.Value {
	return open("", api.Value{Kind: api.ValueOctets, S: s})
}

func ref(name string) api.Type { return api.Type{Kind: api.TypeRef, Name: name} }

// place is where an item of a module is.
func place(module, item int) api.ModulePlace { return api.ModulePlace{Module: module, Item: item} }

// wantObjects checks what CheckObjects returns.
func wantObjects(t *testing.T, what string, l []api.AsnModule, want api.ModulePlace, wantE api.Errno) {
	t.Helper()
	at, e := objects.CheckObjects(l)
	wantResult(t, what, at, e, want, wantE)
}

// wantExpanded checks what Expanded returns.
func wantExpanded(t *testing.T, what string, l, want []api.AsnModule, wantE api.Errno) {
	t.Helper()
	got, e := objects.Expanded(l)
	wantResult(t, what, got, e, want, wantE)
}

// someObjects are the class, the objects and the sets of many tests.
const someObjects = " C ::= CLASS {&id INTEGER UNIQUE, &Type, &name IA5String OPTIONAL, &Other OPTIONAL}" +
	" x C ::= {&id 1, &Type NULL} y C ::= {&Type [4] BOOLEAN, &Other REAL, &id 2, &name \"y\"} z C ::= {&id 3, &Type NULL, &name \"y\"}" +
	" S C ::= {x | y} R C ::= {z | y | x, ...} E C ::= {} O C ::= {...}"
