package values

import (
	"iter"
	"slices"

	"examiner/api"
)

// within yields each type within a type: itself, then those within its fields, then those within Of.
func within(t api.Type) iter.Seq[api.Type] {
	return func(yield func(api.Type) bool) { yieldWithin(t, yield) }
}

// yieldWithin returns whether further types are wanted.
func yieldWithin(t api.Type, yield func(api.Type) bool) bool {
	if !yield(t) {
		return false
	}
	for _, f := range t.Fields {
		if !yieldWithin(f.Type, yield) {
			return false
		}
	}
	for _, of := range t.Of {
		if !yieldWithin(of, yield) {
			return false
		}
	}
	return true
}

// A part is a value within another one: its place there, and its type, references followed, or why these cannot be followed.
type part struct {
	place []int
	typ   api.Type
	value api.Value
	e     api.Errno
}

// parts yields each value within a value of a type: itself, then those within its items. Those within one that does not fit by itself must not be asked for, since they have no types.
func (f *follower) parts(t api.Type, v api.Value) iter.Seq[part] {
	return func(yield func(part) bool) { f.yieldParts(nil, t, v, yield) }
}

// yieldParts returns whether further parts are wanted.
func (f *follower) yieldParts(place []int, t api.Type, v api.Value, yield func(part) bool) bool {
	t, e := f.followed(t)
	if !yield(part{place, t, v, e}) {
		return false
	}
	for i, item := range v.Items {
		if !f.yieldParts(append(slices.Clip(place), i), itemType(t, v, i), item, yield) {
			return false
		}
	}
	return true
}

// itemType returns the type that an item has of a value that fits a type by itself.
func itemType(t api.Type, v api.Value, index int) api.Type {
	switch t.Kind {
	case api.TypeRecord, api.TypeSet, api.TypeUnion:
		return t.Fields[fieldNamed(t, v.Names[index])].Type
	case api.TypeList, api.TypeBag:
		return t.Of[0]
	case api.TypeOid:
		return api.Type{Kind: api.TypeInt}
	}
	if v.S == "" { // an open value without a name
		return api.Type{Kind: api.TypeOctets}
	}
	return api.Type{Kind: api.TypeRef, Name: v.S}
}

// fieldNamed returns the index of the field of a type with a name, or None.
func fieldNamed(t api.Type, name string) int {
	return slices.IndexFunc(t.Fields, func(f api.Field) bool { return f.Name == name })
}
