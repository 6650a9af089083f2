// Package copies copies what the chapters return from their arguments, since results share no memory with these (R3). What is copied was checked before, so that it does not contain itself.
package copies

import (
	"slices"

	"examiner/api"
)

// OfModule returns a module that shares no memory with another one.
func OfModule(m api.AsnModule) api.AsnModule {
	m.Exports = slices.Clone(m.Exports)
	m.Imports = slices.Clone(m.Imports)
	for i, imported := range m.Imports {
		m.Imports[i].Names = slices.Clone(imported.Names)
	}
	m.Items = slices.Clone(m.Items)
	for i, a := range m.Items {
		m.Items[i] = OfItem(a)
	}
	return m
}

// OfItem returns an item of a module that shares no memory with another one.
func OfItem(a api.Assigned) api.Assigned {
	a.Params = slices.Clone(a.Params)
	a.Type = OfType(a.Type)
	a.Value = OfValue(a.Value)
	a.Class = slices.Clone(a.Class)
	for i, f := range a.Class {
		a.Class[i].Fixed = OfTypes(f.Fixed)
	}
	a.Settings = slices.Clone(a.Settings)
	for i, g := range a.Settings {
		a.Settings[i].Value = OfValues(g.Value)
		a.Settings[i].Type = OfTypes(g.Type)
	}
	a.Names = slices.Clone(a.Names)
	return a
}

// OfType returns a type that shares no memory with another one.
func OfType(t api.Type) api.Type {
	t.Tags = slices.Clone(t.Tags)
	t.Fields = slices.Clone(t.Fields)
	for i, f := range t.Fields {
		t.Fields[i].Type = OfType(f.Type)
		t.Fields[i].Default = OfValues(f.Default)
	}
	t.Of = OfTypes(t.Of)
	t.Limits = OfLimits(t.Limits)
	return t
}

// OfTypes returns types that share no memory with others.
func OfTypes(l []api.Type) []api.Type {
	l = slices.Clone(l)
	for i, t := range l {
		l[i] = OfType(t)
	}
	return l
}

// OfValue returns a value that shares no memory with another one.
func OfValue(v api.Value) api.Value {
	v.Names = slices.Clone(v.Names)
	v.Items = OfValues(v.Items)
	return v
}

// OfValues returns values that share no memory with others.
func OfValues(l []api.Value) []api.Value {
	l = slices.Clone(l)
	for i, v := range l {
		l[i] = OfValue(v)
	}
	return l
}

// OfLimits returns a constraint that shares no memory with another one.
func OfLimits(l api.Limits) api.Limits {
	l = slices.Clone(l)
	for i, n := range l {
		l[i].Args = slices.Clone(n.Args)
	}
	return l
}
