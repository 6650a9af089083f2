package modules

import (
	"slices"

	"examiner/api"
	"examiner/notation"
	"examiner/values"
)

// adapted returns a value as its type wants it: what a text without a type cannot say, that something in braces is a bag or a record without fields, is made up for. What does not fit stays as it is.
func adapted(s api.Schema, t api.Type, v api.Value) api.Value {
	if t.Kind == api.TypeRef {
		followed, e := notation.Resolved(s, t)
		if e != api.OK {
			return v
		}
		t = followed
	}
	isList := v.Kind == api.ValueList
	switch {
	case isList && t.Kind == api.TypeBag:
		v.Kind = api.ValueBag
	case isList && len(v.Items) == 0 && isRecord(t):
		v.Kind = api.ValueRecord
	}
	v.Items = slices.Clone(v.Items)
	for i, item := range v.Items {
		v.Items[i] = adapted(s, itemType(t, v, i), item)
	}
	if v.Kind == api.ValueBag {
		slices.SortFunc(v.Items, compareValues)
	}
	return v
}

// compareValues is the order of values that are well-formed.
func compareValues(a, b api.Value) int {
	order, _ := values.Compare(a, b)
	return order
}

// itemType returns the type that an item of a value should have by the type of the value; where that does not say it, NULL, to which nothing is adapted.
func itemType(t api.Type, v api.Value, index int) api.Type {
	isList := v.Kind == api.ValueList && t.Kind == api.TypeList || v.Kind == api.ValueBag && t.Kind == api.TypeBag
	hasFields := v.Kind == api.ValueRecord && isRecord(t) || v.Kind == api.ValueUnion && t.Kind == api.TypeUnion
	switch {
	case isList:
		return t.Of[0]
	case hasFields:
		return fieldType(t, v.Names[index])
	case v.Kind == api.ValueOpen:
		return api.Type{Kind: api.TypeRef, Name: v.S}
	}
	return api.Type{}
}

// fieldType returns the type of the field with a name, or NULL.
func fieldType(t api.Type, name string) api.Type {
	i := slices.IndexFunc(t.Fields, func(f api.Field) bool { return f.Name == name })
	if i < 0 {
		return api.Type{}
	}
	return t.Fields[i].Type
}
