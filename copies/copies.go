// Package copies copies what the chapters return from their arguments, since results share no memory with these (R3). What is copied was checked before, so that it does not contain itself.
package copies

import (
	"slices"

	"examiner/api"
)

// OfType returns a type that shares no memory with another one.
func OfType(t api.Type) api.Type {
	t.Tags = slices.Clone(t.Tags)
	t.Fields = slices.Clone(t.Fields)
	for i, f := range t.Fields {
		t.Fields[i].Type = OfType(f.Type)
		t.Fields[i].Default = OfValues(f.Default)
	}
	t.Of = slices.Clone(t.Of)
	for i, of := range t.Of {
		t.Of[i] = OfType(of)
	}
	t.Limits = OfLimits(t.Limits)
	return t
}

// OfValue returns a value that shares no memory with another one.
func OfValue(v api.Value) api.Value {
	v.Names = slices.Clone(v.Names)
	v.Items = OfValues(v.Items)
	return v
}

// OfValues returns values that share no memory with others.
func OfValues(l []api.Value) []api.Value {
	l = slices.Clone(l)
	for i, v := range l {
		l[i] = OfValue(v)
	}
	return l
}

// OfLimits returns a constraint that shares no memory with another one.
func OfLimits(l api.Limits) api.Limits {
	l = slices.Clone(l)
	for i, n := range l {
		l[i].Args = slices.Clone(n.Args)
	}
	return l
}
