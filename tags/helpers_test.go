package tags_test

import (
	"fmt"
	"reflect"
	"slices"
	"strconv"
	"strings"
	"testing"

	"examiner/api"
	"examiner/notation"
	"examiner/tags"
)

// alike is equality, where a nil slice and an empty one are the same.
func alike(a, b any) bool { return alikeValues(reflect.ValueOf(a), reflect.ValueOf(b)) }

func alikeValues(a, b reflect.Value) bool {
	switch a.Kind() {
	case reflect.Slice:
		if a.Len() != b.Len() {
			return false
		}
		for i := range a.Len() {
			if !alikeValues(a.Index(i), b.Index(i)) {
				return false
			}
		}
		return true
	case reflect.Struct:
		for i := range a.NumField() {
			if !alikeValues(a.Field(i), b.Field(i)) {
				return false
			}
		}
		return true
	}
	return a.Equal(b)
}

// wantResult compares a result and an error with those that must be.
func wantResult(t *testing.T, what string, got any, e api.Errno, want any, wantE api.Errno) {
	t.Helper()
	if e != wantE || !alike(got, want) {
		t.Errorf("%s: %+v, error %d, want %+v, %d", what, got, e, want, wantE)
	}
}

// typeOf returns the type that has a text, where ANY is an open type.
func typeOf(t *testing.T, text string) api.Type {
	t.Helper()
	y, at, e := notation.ParseType(text)
	if e != api.OK {
		t.Fatalf("ParseType(%q): place %d, error %d", text, at, e)
	}
	return withOpen(y)
}

// schemaOf returns the types of items of a module, where ANY is an open type.
func schemaOf(t *testing.T, items string) api.Schema {
	t.Helper()
	m, at, e := notation.ParseModule("M DEFINITIONS EXPLICIT TAGS ::= BEGIN EXPORTS ALL; " + items + " END")
	if e != api.OK {
		t.Fatalf("ParseModule(%q): place %d, error %d", items, at, e)
	}
	var s api.Schema
	for _, item := range m.Items {
		s = append(s, api.Named{Name: item.Name, Type: withOpen(item.Type)})
	}
	slices.SortFunc(s, func(a, b api.Named) int { return strings.Compare(a.Name, b.Name) })
	return s
}

// withOpen returns a type with open types in the place of references to ANY, which no text has.
func withOpen(y api.Type) api.Type {
	if y.Kind == api.TypeRef && y.Name == "ANY" {
		return api.Type{Kind: api.TypeOpen, Tags: y.Tags}
	}
	for i := range y.Fields {
		y.Fields[i].Type = withOpen(y.Fields[i].Type)
	}
	for i := range y.Of {
		y.Of[i] = withOpen(y.Of[i])
	}
	return y
}

// settledOf returns a schema of items, settled in a way.
func settledOf(t *testing.T, way int, items string) api.Schema {
	t.Helper()
	s, e := tags.Settled(schemaOf(t, items), way)
	if e != api.OK {
		t.Fatalf("Settled of %q: error %d", items, e)
	}
	return s
}

// pairsIn returns the pairs that have a text.
func pairsIn(text string) []api.TagPair {
	var l []api.TagPair
	for _, word := range strings.Fields(text) {
		number, _ := strconv.Atoi(word[1:])
		l = append(l, api.TagPair{Class: strings.Index("UACP", word[:1]), Number: number})
	}
	return l
}

func kind(k int) api.Type      { return api.Type{Kind: k} }
func ref(name string) api.Type { return api.Type{Kind: api.TypeRef, Name: name} }

func tagged(y api.Type, l ...api.Tag) api.Type {
	y.Tags = l
	return y
}

func context(number, way int) api.Tag {
	return api.Tag{Class: api.ClassContext, Number: number, Way: way}
}

// fields returns a type of a kind with fields a, b, .. of some types.
func fields(kind int, l ...api.Type) api.Type {
	y := api.Type{Kind: kind, Root: len(l)}
	for i, of := range l {
		y.Fields = append(y.Fields, api.Field{Name: string(rune('a' + i)), Type: of})
	}
	return y
}

// wide returns a type with so many types within it.
func wide(nodes int) api.Type {
	y := api.Type{Kind: api.TypeRecord}
	for left := nodes - 1; left > 0; {
		n := min(left, api.MaxFields+1)
		y.Fields = append(y.Fields, api.Field{Name: fmt.Sprintf("f%d", left), Type: fields(api.TypeRecord, make([]api.Type, n-1)...)})
		left -= n
	}
	y.Root = len(y.Fields)
	return y
}

// deep returns lists so many types deep.
func deep(depth int) api.Type {
	y := kind(api.TypeNull)
	for range depth - 1 {
		y = api.Type{Kind: api.TypeList, Of: []api.Type{y}}
	}
	return y
}

// chain returns a schema of so many types T00, T01, .., each made of a reference to the next one, and a last one.
func chain(n int, link func(next api.Type) api.Type, last api.Type) api.Schema {
	var s api.Schema
	for i := range n {
		s = append(s, api.Named{Name: fmt.Sprintf("T%02d", i), Type: link(ref(fmt.Sprintf("T%02d", i+1)))})
	}
	if n > 0 {
		s[n-1].Type = last
	}
	return s
}

func same(y api.Type) api.Type { return y }
