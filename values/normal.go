package values

import (
	"slices"

	"examiner/api"
)

// normal returns the normal form of a value that fits a type and stands so deep (1: within no other one). It fails if that is too large.
func (f *follower) normal(t api.Type, v api.Value, depth int) api.Value {
	if depth > api.MaxDepth {
		panic(failure{e: api.ErrLarge})
	}
	t, _ = f.followed(t) // no error, because the value fits
	if v.Kind == api.ValueRecord {
		v = f.normalRecord(t, v, depth)
	} else {
		v = f.normalItems(t, v, depth)
	}
	if countWithin(v) > api.MaxValueNodes {
		panic(failure{e: api.ErrLarge})
	}
	return v
}

// normalItems returns a value, which is no record, with the normal forms of its items.
func (f *follower) normalItems(t api.Type, v api.Value, depth int) api.Value {
	items := make([]api.Value, len(v.Items))
	for i, item := range v.Items {
		items[i] = f.normal(itemType(t, v, i), item, depth+1)
	}
	v.Items = items
	sortBag(v)
	return v
}

// A component is what a record has of a field: its value in normal form if it is there; isDefault: it is to be there with its default, or not at all.
type component struct {
	value              api.Value
	isThere, isDefault bool
}

func (f *follower) normalRecord(t api.Type, v api.Value, depth int) api.Value {
	all := f.components(t, v, depth)
	hasOther := func(index int) bool { return all[index].isThere && !all[index].isDefault }
	out := api.Value{Kind: api.ValueRecord}
	for i, field := range t.Fields {
		c := all[i]
		if !hasOther(i) && !(c.isDefault && (i < t.Root || isPulled(t, i, hasOther))) {
			continue
		}
		if !c.isThere {
			c.value = f.normal(field.Type, field.Default[0], depth+1)
		}
		out.Names = append(out.Names, field.Name)
		out.Items = append(out.Items, c.value)
	}
	return out
}

// components returns what a record has of the fields of its type, in their order.
func (f *follower) components(t api.Type, v api.Value, depth int) []component {
	all := make([]component, len(t.Fields))
	for i, field := range t.Fields {
		hasDefault := field.Presence == api.FieldDefault
		at := slices.Index(v.Names, field.Name)
		if at == api.None {
			all[i].isDefault = hasDefault
			continue
		}
		all[i].isThere = true
		all[i].value = f.normal(field.Type, v.Items[at], depth+1)
		if hasDefault && i >= t.Root { // in the root it does not matter whether a field that is there has its default
			byDefault := f.normal(field.Type, field.Default[0], depth+1)
			all[i].isDefault = compared(all[i].value, byDefault) == 0
		}
	}
	return all
}

// countWithin returns how many values are within a value, itself counted.
func countWithin(v api.Value) int {
	n := 1
	for _, item := range v.Items {
		n += countWithin(item)
	}
	return n
}
