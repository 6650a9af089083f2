package tags_test

import (
	"math/rand"

	"examiner/api"
	"examiner/tags"
)

// A maker makes types and schemas at random.
type maker struct{ *rand.Rand }

func (m maker) tags(most int) []api.Tag {
	var l []api.Tag
	for range m.Intn(most + 1) {
		l = append(l, api.Tag{Class: 1 + m.Intn(3), Number: m.Intn(3), Way: m.Intn(3)})
	}
	return l
}

// typ returns a type that may refer to A, B, C and D.
func (m maker) typ(depth int) api.Type {
	kinds := []int{api.TypeNull, api.TypeInt, api.TypeChars, api.TypeOpen, api.TypeRef, api.TypeRef}
	if depth > 1 {
		kinds = append(kinds, api.TypeRecord, api.TypeRecord, api.TypeSet, api.TypeUnion, api.TypeUnion, api.TypeUnion, api.TypeList, api.TypeBag)
	}
	y := api.Type{Kind: kinds[m.Intn(len(kinds))]}
	switch y.Kind {
	case api.TypeInt:
		y.Limits = api.Limits{{High: 5}, {Kind: api.LimitMarker, Args: []int{0}}}
	case api.TypeChars:
		y.Name = api.Ia5
	case api.TypeRef:
		y.Name = string(rune('A' + m.Intn(4)))
	case api.TypeList, api.TypeBag:
		y.Of = []api.Type{m.typ(depth - 1)}
	case api.TypeRecord, api.TypeSet, api.TypeUnion:
		y = m.withFields(y, depth)
	}
	y.Tags = m.tags(m.Intn(3))
	return y
}

func (m maker) withFields(y api.Type, depth int) api.Type {
	tagged := m.Intn(3)
	for i := range 1 + m.Intn(4) {
		f := api.Field{Name: string(rune('a' + i)), Type: m.typ(depth - 1)}
		if tagged == 0 {
			f.Type.Tags = nil
		}
		if y.Kind != api.TypeUnion {
			f.Presence = m.Intn(api.Presences)
		}
		if f.Presence == api.FieldDefault {
			f.Default = []api.Value{{Kind: api.ValueRecord, Names: []string{"x"}, Items: []api.Value{{Kind: api.ValueList}}}}
		}
		y.Fields = append(y.Fields, f)
	}
	y.Root = len(y.Fields)
	if m.Intn(3) == 0 {
		y.Open = true
		y.Root = 1 + m.Intn(len(y.Fields))
	}
	if m.Intn(2) == 0 && y.Root < len(y.Fields) {
		y.Fields[y.Root].Group = 1
	}
	return y
}

func (m maker) schema(depth int) api.Schema {
	var s api.Schema
	for _, name := range []string{"A", "B", "C", "D"} {
		s = append(s, api.Named{Name: name, Type: m.typ(depth)})
	}
	return s
}

// rightSchema returns a schema that is no circle, and the same settled.
func (m maker) rightSchema(depth, way int) (api.Schema, api.Schema) {
	for {
		s := m.schema(depth)
		if settled, e := tags.Settled(s, way); e == api.OK {
			return s, settled
		}
	}
}

// untagged returns a type without any tags within it.
func untagged(y api.Type) api.Type {
	return mapped(y, func(y api.Type) api.Type {
		y.Tags = nil
		return y
	})
}

// mapped returns a type in which change has changed each type within it, those within before those around them.
func mapped(y api.Type, change func(api.Type) api.Type) api.Type {
	y = deepCopy(y)
	for i, f := range y.Fields {
		y.Fields[i].Type = mapped(f.Type, change)
	}
	for i, of := range y.Of {
		y.Of[i] = mapped(of, change)
	}
	return change(y)
}

// mappedSchema returns a schema with changed types.
func mappedSchema(s api.Schema, change func(api.Type) api.Type) api.Schema {
	s = deepCopy(s)
	for i, n := range s {
		s[i].Type = mapped(n.Type, change)
	}
	return s
}

// typesWithin returns the types within a type, in the order of chapter 3, and the ways to them.
func typesWithin(y api.Type, way []int) ([]api.Type, [][]int) {
	types, ways := []api.Type{y}, [][]int{way}
	add := func(i int, inner api.Type) {
		t, w := typesWithin(inner, append(way[:len(way):len(way)], i))
		types = append(types, t...)
		ways = append(ways, w...)
	}
	for i, f := range y.Fields {
		add(i, f.Type)
	}
	for i, of := range y.Of {
		add(i, of)
	}
	return types, ways
}
