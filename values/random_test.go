package values_test

import (
	"math/rand"
	"slices"

	"examiner/api"
	"examiner/limits"
	"examiner/values"
)

// A maker makes schemas, types and values at random. Its values mostly fit.
type maker struct {
	*rand.Rand
	s api.Schema
}

// newMaker returns a maker with a schema, the defaults of which mostly fit.
func newMaker(seed int64) *maker {
	m := &maker{Rand: rand.New(rand.NewSource(seed))}
	for _, name := range []string{"A", "B", "C", "D"} {
		m.s = append(m.s, api.Named{Name: name, Type: m.typ(3)})
	}
	for i := range m.s {
		m.putDefaults(&m.s[i].Type)
	}
	return m
}

func (m *maker) one(odds int) bool { return m.Intn(odds) == 0 }

// full returns a type with defaults.
func (m *maker) full() api.Type {
	y := m.typ(3)
	m.putDefaults(&y)
	return y
}

// typ returns a type without defaults, which would have to fit types that are not there yet.
func (m *maker) typ(depth int) api.Type {
	kinds := []int{api.TypeNull, api.TypeBool, api.TypeInt, api.TypeInt, api.TypeEnum, api.TypeBits, api.TypeOctets, api.TypeChars, api.TypeOid, api.TypeReal, api.TypeOpen, api.TypeRef, api.TypeRef}
	if depth > 1 {
		kinds = append(kinds[9:], api.TypeRecord, api.TypeRecord, api.TypeRecord, api.TypeSet, api.TypeList, api.TypeBag, api.TypeUnion)
	}
	y := api.Type{Kind: kinds[m.Intn(len(kinds))]}
	switch y.Kind {
	case api.TypeEnum:
		y.Fields = []api.Field{{Name: "x"}, {Name: "y", Number: 5}, {Name: "z", Number: 1}}[:1+m.Intn(3)]
		y.Root = len(y.Fields)
	case api.TypeChars:
		y.Name = []string{api.Numeric, api.Printable, api.Visible, api.Ia5}[m.Intn(4)]
	case api.TypeRecord, api.TypeSet, api.TypeUnion:
		y = m.withFields(y, depth)
	case api.TypeList, api.TypeBag:
		y.Of = []api.Type{m.typ(depth - 1)}
	case api.TypeRef:
		y.Name = m.typeName()
	}
	for range m.Intn(3) * m.Intn(2) {
		y.Tags = append(y.Tags, api.Tag{Class: api.ClassContext, Number: m.Intn(5)})
	}
	if m.one(3) {
		y.Limits = m.limits(y.Kind)
	}
	return y
}

func (m *maker) typeName() string { return []string{"A", "B", "C", "D"}[m.Intn(4)] }

func (m *maker) limits(kind int) api.Limits {
	switch kind {
	case api.TypeInt:
		return api.Limits{{Low: -1, High: 2 + m.Intn(3)}}
	case api.TypeBits, api.TypeOctets, api.TypeChars, api.TypeList, api.TypeBag:
		return api.Limits{{Low: m.Intn(2), High: 1 + m.Intn(2)}, {Kind: api.LimitSize, Args: []int{0}}}
	}
	return nil
}

func (m *maker) withFields(y api.Type, depth int) api.Type {
	count := m.Intn(6)
	if y.Kind == api.TypeUnion {
		count++
	}
	for _, name := range []string{"a", "b", "c", "d", "e", "f"}[:count] {
		f := api.Field{Name: name, Type: m.typ(depth - 1)}
		if y.Kind != api.TypeUnion {
			f.Presence = []int{api.FieldMust, api.FieldOptional, api.FieldDefault, api.FieldDefault}[m.Intn(4)]
		}
		y.Fields = append(y.Fields, f)
	}
	y.Root = count
	if !m.one(3) {
		y.Open = true
		y.Root = m.Intn(count + 1)
	}
	if y.Kind == api.TypeUnion {
		y.Root = max(1, y.Root)
	}
	group, inGroup := 0, false
	for i := y.Root; i < count; i++ {
		if m.one(2) {
			group++
			inGroup = true
		} else if m.one(2) {
			inGroup = false
		}
		if inGroup {
			y.Fields[i].Group = group
		}
	}
	return y
}

// putDefaults gives each field within a type that needs one a default.
func (m *maker) putDefaults(y *api.Type) {
	for i := range y.Fields {
		f := &y.Fields[i]
		m.putDefaults(&f.Type)
		if f.Presence != api.FieldDefault {
			continue
		}
		v, ok := m.value(f.Type, 1+m.Intn(3))
		switch {
		case !ok:
			f.Presence = api.FieldOptional
		case m.one(60):
			f.Default = []api.Value{m.spoilt(v)}
		default:
			f.Default = []api.Value{v}
		}
	}
	for i := range y.Of {
		m.putDefaults(&y.Of[i])
	}
}

// value returns a value of a type, at most so deep, if one is found. In a few of them fields are missing that must be there.
func (m *maker) value(y api.Type, depth int) (api.Value, bool) {
	for steps := 0; y.Kind == api.TypeRef; steps++ {
		i := slices.IndexFunc(m.s, func(n api.Named) bool { return n.Name == y.Name })
		if steps > 9 || i < 0 {
			return api.Value{}, false
		}
		y = m.s[i].Type
	}
	if depth < 1 {
		return api.Value{}, false
	}
	for range 6 {
		if v, ok := m.someValue(y, depth); ok {
			y.Tags = nil
			if permitted, _ := limits.Permits(y, v); permitted {
				return v, true
			}
		}
	}
	return api.Value{}, false
}

// someValue returns a value of a type that is no reference, of which the constraint may not be satisfied.
func (m *maker) someValue(y api.Type, depth int) (api.Value, bool) {
	switch y.Kind {
	case api.TypeBool:
		return api.Value{Kind: api.ValueBool, N: m.Intn(2)}, true
	case api.TypeInt:
		return number(m.Intn(5) - 2), true
	case api.TypeEnum:
		return enum(y.Fields[m.Intn(len(y.Fields))].Name), true
	case api.TypeBits:
		return api.Value{Kind: api.ValueBits, S: []string{"", "0", "10"}[m.Intn(3)]}, true
	case api.TypeOctets:
		return octets([]string{"", "\x00", "\xff5"}[m.Intn(3)]), true
	case api.TypeChars:
		return chars([]string{"", "1", " 2"}[m.Intn(3)]), true
	case api.TypeOid:
		return oid(1, m.Intn(3)), depth > 1
	case api.TypeReal:
		return api.Value{Kind: api.ValueReal, N: 2*m.Intn(3) - 3, E: m.Intn(3) - 1}, true
	case api.TypeRecord, api.TypeSet:
		return m.record(y, depth)
	case api.TypeList, api.TypeBag:
		return m.list(y, depth)
	case api.TypeUnion:
		f := y.Fields[m.Intn(len(y.Fields))]
		v, ok := m.value(f.Type, depth-1)
		return union(f.Name, v), ok
	case api.TypeOpen:
		if name := m.typeName(); m.one(2) {
			v, ok := m.value(ref(name), depth-1)
			return open(name, v), ok
		}
		return open("", octets("\x05")), depth > 1
	}
	return api.Value{}, true
}

func (m *maker) record(y api.Type, depth int) (api.Value, bool) {
	out := record("")
	last := len(y.Fields)
	if m.one(2) {
		last = y.Root + m.Intn(len(y.Fields)-y.Root+1)
	}
	for _, i := range m.Perm(last) {
		f := y.Fields[i]
		if f.Presence != api.FieldMust && m.one(2) || f.Presence == api.FieldMust && m.one(12) {
			continue
		}
		v, ok := m.value(f.Type, depth-1)
		if f.Presence == api.FieldDefault && len(f.Default) > 0 && m.one(2) {
			v, ok = f.Default[0], true
		}
		if !ok {
			if f.Presence == api.FieldMust {
				return out, false
			}
			continue
		}
		out.Names = append(out.Names, f.Name)
		out.Items = append(out.Items, v)
	}
	return out, true
}

func (m *maker) list(y api.Type, depth int) (api.Value, bool) {
	v := list()
	for range m.Intn(4) {
		item, ok := m.value(y.Of[0], depth-1)
		if !ok {
			break
		}
		v.Items = append(v.Items, item)
	}
	if y.Kind == api.TypeBag {
		v.Kind = api.ValueBag
		sorted(v)
	}
	return v, true
}

// sorted puts the items of a bag into their order.
func sorted(v api.Value) {
	slices.SortFunc(v.Items, func(a, b api.Value) int {
		order, _ := values.Compare(a, b)
		return order
	})
}

// spoilt returns a value that is another one at one place, well-formed if that is possible.
func (m *maker) spoilt(v api.Value) api.Value {
	all := places(v, nil)
	place := all[m.Intn(len(all))]
	at, _ := values.ValueAt(v, place)
	switch {
	case m.one(4):
		at = someValues()[m.Intn(len(someValues()))]
	case len(at.Items) > 0 && m.one(2):
		i := m.Intn(len(at.Items))
		at.Items = slices.Delete(at.Items, i, i+1)
		if len(at.Names) > 0 {
			at.Names = slices.Delete(at.Names, i, i+1)
		}
	case len(at.Names) > 0:
		at.Names[m.Intn(len(at.Names))] = []string{"a", "b", "c", "q"}[m.Intn(4)]
	case at.Kind == api.ValueInt:
		at.N = m.Intn(20) - 10
	case at.S != "":
		at.S = []string{"x", "A", "a1", "\x01", "0"}[m.Intn(5)]
	}
	if out, e := values.Changed(v, place, at); e == api.OK {
		return out
	}
	return v
}

// places returns the places of all values within a value, behind a place: itself first, then those of its items.
func places(v api.Value, behind []int) [][]int {
	out := [][]int{behind}
	for i, item := range v.Items {
		out = append(out, places(item, append(slices.Clone(behind), i))...)
	}
	return out
}
