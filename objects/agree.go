package objects

import (
	"slices"

	"examiner/api"
)

// A contract is a table, and the rows of its object set.
type contract struct {
	api.Table
	rows []api.ObjectRow
}

// clash returns the place of the first open component in a value of a type that does not agree, if there is one.
func (c contract) clash(t api.Type, v api.Value) ([]int, bool) {
	if c.IdField == api.None {
		return nil, false
	}
	return c.clashBehind(t, c.Way, v, nil)
}

// clashBehind is about the records that stand at the rest of the way in a value, which itself stands at a place.
func (c contract) clashBehind(t api.Type, way []int, v api.Value, place []int) ([]int, bool) {
	if len(way) == 0 {
		return c.clashIn(v, place)
	}
	inner, items := behindStep(t, way[0], v)
	for _, i := range items {
		if found, clashes := c.clashBehind(inner, way[1:], v.Items[i], slices.Concat(place, []int{i})); clashes {
			return found, true
		}
	}
	return nil, false
}

// behindStep returns the type behind one step of a way, and the indexes of the items of a value that stand there. (A value that was read without its type has lists in the place of bags.)
func behindStep(t api.Type, step int, v api.Value) (api.Type, []int) {
	isList := v.Kind == api.ValueList || v.Kind == api.ValueBag
	hasFields := isRecord(t) && v.Kind == api.ValueRecord || t.Kind == api.TypeUnion && v.Kind == api.ValueUnion
	var items []int
	switch {
	case len(t.Of) > 0 && isList:
		for i := range v.Items {
			items = append(items, i)
		}
		return t.Of[0], items
	case hasFields:
		f := t.Fields[step]
		if i := slices.Index(v.Names, f.Name); i >= 0 {
			items = append(items, i)
		}
		return f.Type, items
	}
	return api.Type{}, nil
}

// clashIn is about a record.
func (c contract) clashIn(v api.Value, place []int) ([]int, bool) {
	at := slices.Index(v.Names, c.Open)
	if v.Kind != api.ValueRecord || at < 0 {
		return nil, false
	}
	open := v.Items[at]
	if open.Kind != api.ValueOpen || open.S == "" {
		return nil, false
	}
	id := slices.Index(v.Names, c.Id)
	isRow := func(row api.ObjectRow) bool {
		return row.Types[c.Field] == open.S && hasValue(row, c.IdField, v.Items[id])
	}
	if id >= 0 && slices.ContainsFunc(c.rows, isRow) {
		return nil, false
	}
	return slices.Concat(place, []int{at}), true
}
