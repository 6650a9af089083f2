package modules_test

import (
	"fmt"
	"reflect"
	"slices"
	"strings"
	"testing"

	"examiner/api"
	"examiner/modules"
	"examiner/notation"
)

// alike is equality, where a nil slice and an empty one are the same.
func alike(a, b any) bool { return alikeValues(reflect.ValueOf(a), reflect.ValueOf(b)) }

func alikeValues(a, b reflect.Value) bool {
	switch a.Kind() {
	case reflect.Slice:
		if a.Len() != b.Len() {
			return false
		}
		for i := range a.Len() {
			if !alikeValues(a.Index(i), b.Index(i)) {
				return false
			}
		}
		return true
	case reflect.Struct:
		for i := range a.NumField() {
			if !alikeValues(a.Field(i), b.Field(i)) {
				return false
			}
		}
		return true
	}
	return a.Equal(b)
}

// wantResult compares a result and an error with those that must be.
func wantResult(t *testing.T, what string, got any, e api.Errno, want any, wantE api.Errno) {
	t.Helper()
	if e != wantE || !alike(got, want) {
		t.Errorf("%.300s: %s, error %d, want %s, %d", what, short(got), e, short(want), wantE)
	}
}

// short returns the beginning of the text of something.
func short(x any) string {
	s, isSchema := x.(api.Schema)
	if isSchema {
		return fmt.Sprintf("%.600s", textOf(s))
	}
	return fmt.Sprintf("%.300s", fmt.Sprintf("%+v", x))
}

// textOf returns a schema as lines.
func textOf(s api.Schema) string {
	var lines []string
	for _, n := range s {
		text, e := notation.FormatType(n.Type)
		if e != api.OK {
			text = fmt.Sprintf("%+v", n.Type)
		}
		lines = append(lines, n.Name+" ::= "+text)
	}
	return strings.Join(lines, "\n")
}

// typeOf returns the type that has a text, where ANY is an open type, and names may have one "_", as those of types of other modules have.
func typeOf(t *testing.T, text string) api.Type {
	t.Helper()
	y, at, e := notation.ParseType(strings.ReplaceAll(text, "_", stroke))
	if e != api.OK {
		t.Fatalf("ParseType(%q): place %d, error %d", text, at, e)
	}
	return withOpen(y)
}

// schemaOf returns the types that have texts such as "A ::= INTEGER", where ANY is an open type. Their order does not matter.
func schemaOf(t *testing.T, lines ...string) api.Schema {
	t.Helper()
	var s api.Schema
	for _, line := range lines {
		name, text, _ := strings.Cut(line, " ::= ")
		s = append(s, api.Named{Name: name, Type: typeOf(t, text)})
	}
	slices.SortFunc(s, func(a, b api.Named) int { return strings.Compare(a.Name, b.Name) })
	return s
}

// moduleOf returns the module that has a text such as "M AUTOMATIC EXPORTS T; IMPORTS U FROM N; T ::= U" (without EXPORTS all is exported), where ANY is an open type.
func moduleOf(t *testing.T, text string) api.AsnModule {
	t.Helper()
	words := strings.SplitN(text, " ", 3)
	if !strings.HasPrefix(words[2], "EXPORTS") {
		words[2] = "EXPORTS ALL; " + words[2]
	}
	full := words[0] + " DEFINITIONS " + words[1] + " TAGS ::= BEGIN " + words[2] + " END"
	m, at, e := notation.ParseModule(full)
	if e != api.OK {
		t.Fatalf("ParseModule(%q): place %d, error %d", full, at, e)
	}
	for i := range m.Items {
		m.Items[i].Type = withOpen(m.Items[i].Type)
	}
	return m
}

// programOf returns modules that have texts.
func programOf(t *testing.T, texts ...string) []api.AsnModule {
	t.Helper()
	var l []api.AsnModule
	for _, text := range texts {
		l = append(l, moduleOf(t, text))
	}
	return l
}

// stroke stands in texts of ASN.1 for "_", which no name there has.
const stroke = "-stroke-"

// withOpen returns a type with open types in the place of references to ANY, which no text has.
func withOpen(y api.Type) api.Type {
	if y.Kind == api.TypeRef && y.Name == "ANY" {
		return api.Type{Kind: api.TypeOpen, Tags: y.Tags}
	}
	if y.Kind == api.TypeRef {
		y.Name = strings.ReplaceAll(y.Name, stroke, "_")
	}
	for i := range y.Fields {
		y.Fields[i].Type = withOpen(y.Fields[i].Type)
	}
	for i := range y.Of {
		y.Of[i] = withOpen(y.Of[i])
	}
	return y
}

// plainOf returns the plain value that has a text.
func plainOf(t *testing.T, text string) api.Value {
	t.Helper()
	v, at, e := notation.ParsePlain(text)
	if e != api.OK {
		t.Fatalf("ParsePlain(%q): place %d, error %d", text, at, e)
	}
	return v
}

// number returns a whole number as a value, list, bag and record return values with items.
func number(n int) api.Value        { return api.Value{Kind: api.ValueInt, N: n} }
func list(l ...api.Value) api.Value { return api.Value{Kind: api.ValueList, Items: l} }
func bag(l ...api.Value) api.Value  { return api.Value{Kind: api.ValueBag, Items: l} }
func record(names string, l ...api.Value) api.Value {
	return api.Value{Kind: api.ValueRecord, Names: strings.Fields(names), Items: l}
}
func union(name string, v api.Value) api.Value {
	return api.Value{Kind: api.ValueUnion, Names: []string{name}, Items: []api.Value{v}}
}
func open(name string, v api.Value) api.Value {
	return api.Value{Kind: api.ValueOpen, S: name, Items: []api.Value{v}}
}

func ref(name string) api.Type { return api.Type{Kind: api.TypeRef, Name: name} }

// place is where an item of a module is.
func place(module, item int) api.ModulePlace { return api.ModulePlace{Module: module, Item: item} }

// wantProgram checks what CheckProgram returns.
func wantProgram(t *testing.T, what string, l []api.AsnModule, want api.ModulePlace, wantE api.Errno) {
	t.Helper()
	at, e := modules.CheckProgram(l)
	wantResult(t, what, at, e, want, wantE)
}

// wantSchema checks the schema of the first one of several modules.
func wantSchema(t *testing.T, texts []string, want api.Schema, wantE api.Errno) {
	t.Helper()
	s, e := modules.SchemaOf(programOf(t, texts...), 0)
	wantResult(t, strings.Join(texts, "; "), s, e, want, wantE)
}

// wantValue checks the value with the name v in the first one of several modules.
func wantValue(t *testing.T, l []api.AsnModule, want api.Value, wantE api.Errno) {
	t.Helper()
	v, e := modules.ValueOf(l, 0, "v")
	wantResult(t, fmt.Sprintf("%.300s", fmt.Sprintf("v of %+v", l)), v, e, want, wantE)
}
