package modules_test

import (
	"math/rand"
	"slices"

	"examiner/api"
	"examiner/limits"
)

// A maker makes programs, schemas, types and values at random.
type maker struct {
	*rand.Rand
	names     []string // of the types to which references refer
	isWritten bool     // types are as they are written in modules: references with constraints, COMPONENTS OF, lists in the place of bags
}

func newMaker(seed int64) *maker { return &maker{Rand: rand.New(rand.NewSource(seed))} }

func (m *maker) one(odds int) bool { return m.Intn(odds) == 0 }

// pick returns one of several things.
func pick[T any](m *maker, l ...T) T { return l[m.Intn(len(l))] }

// schema returns types A, B, C and D, perhaps with wrong defaults.
func (m *maker) schema() api.Schema {
	m.names = []string{"A", "B", "C", "D"}
	var s api.Schema
	for _, name := range m.names {
		s = append(s, api.Named{Name: name, Type: m.typ(3)})
	}
	return s
}

// typ returns a type at most so deep.
func (m *maker) typ(depth int) api.Type {
	y := api.Type{Kind: pick(m, api.TypeNull, api.TypeBool, api.TypeInt, api.TypeEnum, api.TypeBits, api.TypeOctets, api.TypeChars, api.TypeOid, api.TypeReal, api.TypeOpen, api.TypeRef, api.TypeRef, api.TypeRef, api.TypeRef)}
	if depth > 1 && !m.one(3) {
		y.Kind = pick(m, api.TypeRecord, api.TypeRecord, api.TypeSet, api.TypeList, api.TypeBag, api.TypeUnion)
	}
	switch y.Kind {
	case api.TypeEnum:
		for i, name := range []string{"x", "y", "z"}[:1+m.Intn(3)] {
			y.Fields = append(y.Fields, api.Field{Name: name, Number: 3*m.Intn(5) - i})
		}
		y.Root = 1 + m.Intn(len(y.Fields))
		y.Open = y.Root < len(y.Fields) || m.one(4)
	case api.TypeChars:
		y.Name = pick(m, api.Numeric, api.Printable, api.Visible, api.Ia5)
	case api.TypeRecord, api.TypeSet, api.TypeUnion:
		y = m.withFields(y, depth)
	case api.TypeList, api.TypeBag:
		y.Of = []api.Type{m.typ(depth - 1)}
	case api.TypeRef:
		y.Name = pick(m, m.names...)
	}
	if m.one(3) {
		y.Tags = []api.Tag{m.tag()}
	}
	if m.one(3) {
		y.Limits = m.limits(y.Kind)
	}
	return y
}

func (m *maker) tag() api.Tag {
	g := api.Tag{Class: api.ClassContext, Number: m.Intn(9), Way: api.TagExplicit}
	if m.isWritten {
		g.Way = m.Intn(api.TagWays)
	}
	return g
}

// limits returns a constraint, of a few kinds one that permits nothing.
func (m *maker) limits(kind int) api.Limits {
	if kind == api.TypeRef && m.isWritten {
		kind = pick(m, api.TypeInt, api.TypeBag)
	}
	span := api.Limit{Low: m.Intn(3), High: 2 + m.Intn(2)}
	switch kind {
	case api.TypeInt:
		if m.one(12) {
			return api.Limits{span, span, {Kind: api.LimitWithout, Args: []int{0, 1}}}
		}
		span.Low -= 2
		return api.Limits{span}
	case api.TypeBits, api.TypeOctets, api.TypeChars, api.TypeList, api.TypeBag:
		return api.Limits{span, {Kind: api.LimitSize, Args: []int{0}}}
	}
	return nil
}

// withFields returns a record, a set or a union with fields, in additions perhaps.
func (m *maker) withFields(y api.Type, depth int) api.Type {
	count := m.Intn(4)
	if y.Kind == api.TypeUnion {
		count++
	}
	for _, name := range []string{"a", "b", "c", "d"}[:count] {
		f := api.Field{Name: name, Type: m.typ(depth - 1)}
		switch {
		case y.Kind == api.TypeUnion:
		case m.isWritten && m.one(8):
			f.Name = "components"
			f.Type = api.Type{Kind: api.TypeRef, Name: pick(m, m.names...)}
		default:
			f.Presence = m.Intn(api.Presences)
		}
		if f.Presence == api.FieldDefault {
			f.Default = []api.Value{m.defaultOf(f.Type)}
		}
		if !slices.ContainsFunc(y.Fields, func(g api.Field) bool { return g.Name == f.Name }) {
			y.Fields = append(y.Fields, f)
		}
	}
	y.Root = len(y.Fields)
	if m.one(2) {
		y.Open = true
		y.Root = min(max(1, m.Intn(y.Root+1)), y.Root)
		if y.Root < len(y.Fields) && m.one(2) {
			y.Fields[y.Root].Group = 1
		}
	}
	return y
}

// defaultOf returns a value that may fit a type.
func (m *maker) defaultOf(y api.Type) api.Value {
	listKind, bagKind, recordKind := api.ValueList, api.ValueBag, api.ValueRecord
	if m.isWritten {
		bagKind, recordKind = api.ValueList, api.ValueList
	}
	items := []api.Value{}
	if len(y.Of) > 0 && m.one(2) {
		items = append(items, m.defaultOf(y.Of[0]))
	}
	switch y.Kind {
	case api.TypeBool:
		return api.Value{Kind: api.ValueBool, N: m.Intn(2)}
	case api.TypeInt:
		return number(m.Intn(3))
	case api.TypeEnum:
		return api.Value{Kind: api.ValueEnum, S: pick(m, "x", "y")}
	case api.TypeBits:
		return api.Value{Kind: api.ValueBits, S: pick(m, "01", "1")}
	case api.TypeOctets, api.TypeChars:
		return api.Value{Kind: api.ValueOctets + y.Kind - api.TypeOctets, S: pick(m, "12", "0")}
	case api.TypeOid:
		return api.Value{Kind: api.ValueOid, Items: []api.Value{number(1), number(m.Intn(3))}}
	case api.TypeReal:
		return api.Value{Kind: api.ValueReal, N: 3, E: m.Intn(2)}
	case api.TypeRecord, api.TypeSet:
		if len(y.Fields) > 0 && m.one(2) {
			return record(y.Fields[0].Name, m.defaultOf(y.Fields[0].Type))
		}
		return api.Value{Kind: recordKind}
	case api.TypeList:
		return api.Value{Kind: listKind, Items: items}
	case api.TypeBag:
		return api.Value{Kind: bagKind, Items: items}
	case api.TypeUnion:
		return union(y.Fields[0].Name, m.defaultOf(y.Fields[0].Type))
	case api.TypeOpen:
		return open("", api.Value{Kind: api.ValueOctets, S: "\x05\x00"})
	case api.TypeRef:
		return pick(m, api.Value{Kind: recordKind}, number(1), list(), api.Value{}, api.Value{})
	}
	return api.Value{}
}

// program returns modules most of which see what they use.
func (m *maker) program() []api.AsnModule {
	m.isWritten = true
	var l []api.AsnModule
	for _, name := range []string{"M", "N", "O", "P"}[:1+m.Intn(4)] {
		l = append(l, api.AsnModule{Name: name, Way: m.Intn(api.Ways), All: m.one(2)})
	}
	own := make([][]string, len(l))
	for i := range l {
		for _, name := range []string{"A", "B", "C", "D", "E"} {
			if m.one(3) {
				own[i] = append(own[i], name)
			}
		}
	}
	for i := range l {
		m.putImports(l, own, i)
		m.putItems(&l[i], own[i])
		m.putExports(&l[i])
	}
	return l
}

// putImports gives a module imports of what others have, or import themselves.
func (m *maker) putImports(l []api.AsnModule, own [][]string, module int) {
	has := slices.Clone(own[module])
	for _, j := range m.Perm(len(l)) {
		if j == module || m.one(3) {
			continue
		}
		imported := api.Import{Module: l[j].Name}
		names := slices.Clone(own[j])
		for _, other := range l[j].Imports {
			names = append(names, other.Names...)
		}
		if m.one(20) {
			names = append(names, pick(m, "A", "B", "C"))
		}
		for _, name := range names {
			if !slices.Contains(has, name) && !m.one(4) {
				has = append(has, name)
				imported.Names = append(imported.Names, name)
			}
		}
		if len(imported.Names) > 0 {
			l[module].Imports = append(l[module].Imports, imported)
		}
	}
}

// putItems gives a module types with some names, and perhaps a value.
func (m *maker) putItems(module *api.AsnModule, names []string) {
	m.names = slices.Clone(names)
	for _, imported := range module.Imports {
		m.names = append(m.names, imported.Names...)
	}
	if len(m.names) == 0 || m.one(40) {
		m.names = append(m.names, "A")
	}
	for _, i := range m.Perm(len(names)) {
		module.Items = append(module.Items, api.Assigned{Kind: api.ItemType, Name: names[i], Type: m.typ(3)})
	}
	if m.one(2) {
		y := m.typ(2)
		module.Items = append(module.Items, api.Assigned{Kind: api.ItemValue, Name: "v", Type: y, Value: m.defaultOf(y)})
	}
}

// putExports lets a module give most of what it sees to others.
func (m *maker) putExports(module *api.AsnModule) {
	if module.All {
		return
	}
	for _, a := range module.Items {
		if !m.one(10) {
			module.Exports = append(module.Exports, a.Name)
		}
	}
	for _, imported := range module.Imports {
		for _, name := range imported.Names {
			if !m.one(10) {
				module.Exports = append(module.Exports, name)
			}
		}
	}
}

// value returns a value of a type of a schema, at most so deep, if one is found. It is not always a right one.
func (m *maker) value(s api.Schema, y api.Type, depth int) (api.Value, bool) {
	for range len(s) + 1 {
		if y.Kind == api.TypeRef {
			y = s[slices.IndexFunc(s, func(n api.Named) bool { return n.Name == y.Name })].Type
		}
	}
	if depth < 1 || y.Kind == api.TypeRef {
		return api.Value{}, false
	}
	switch y.Kind {
	case api.TypeRecord, api.TypeSet:
		return m.recordValue(s, y, depth)
	case api.TypeList, api.TypeBag:
		v := api.Value{Kind: api.ValueList + y.Kind - api.TypeList}
		least, _ := limits.LeastOf(y)
		for range least.N + m.Intn(2)*m.Intn(2) {
			item, ok := m.value(s, y.Of[0], depth-1)
			if !ok {
				return v, false
			}
			v.Items = append(v.Items, item)
		}
		slices.SortFunc(v.Items, compareValues)
		return v, true
	case api.TypeUnion:
		f := pick(m, y.Fields...)
		v, ok := m.value(s, f.Type, depth-1)
		return union(f.Name, v), ok
	case api.TypeOpen, api.TypeOid:
		return m.defaultOf(y), depth > 1
	case api.TypeInt, api.TypeBits, api.TypeOctets, api.TypeChars:
		if v, e := limits.LeastOf(y); e == api.OK && m.one(2) {
			return v, true
		}
	}
	return m.defaultOf(y), true
}

func (m *maker) recordValue(s api.Schema, y api.Type, depth int) (api.Value, bool) {
	v := record("")
	for i, f := range y.Fields {
		isNeeded := i < y.Root && f.Presence == api.FieldMust
		if !isNeeded && !m.one(4) {
			continue
		}
		item, ok := m.value(s, f.Type, depth-1)
		switch {
		case ok:
			v.Names = append(v.Names, f.Name)
			v.Items = append(v.Items, item)
		case isNeeded:
			return v, false
		}
	}
	return v, true
}
