package notation_test

import (
	"fmt"
	"math/rand"

	"examiner/api"
)

// A maker makes types, values and modules that are right and have texts, at random.
type maker struct{ *rand.Rand }

func (m maker) small() string {
	return []string{"a", "b", "c-d", "mantissa", "base", "exponent", "x1"}[m.Intn(7)]
}
func (m maker) capital() string { return []string{"A", "B", "T-1", "U"}[m.Intn(4)] }

func (m maker) number() int {
	switch m.Intn(6) {
	case 0:
		return []int{api.MaxInteger, -api.MaxInteger}[m.Intn(2)]
	case 1:
		return -m.Intn(50)
	}
	return m.Intn(50)
}

func (m maker) string(alphabet string) string {
	s := ""
	for range m.Intn(5) {
		s += string(alphabet[m.Intn(len(alphabet))])
	}
	return s
}

// names returns some names, none of them twice.
func (m maker) names(most int) []string {
	var l []string
	for i := range m.Intn(most + 1) {
		l = append(l, fmt.Sprintf("%s%d", m.small(), i))
	}
	return l
}

func (m maker) value(depth int) api.Value {
	kinds := 8
	if depth > 1 {
		kinds = 13
	}
	switch m.Intn(kinds) {
	case 0:
		return api.Value{}
	case 1:
		return truth(m.Intn(2))
	case 2:
		return number(m.number())
	case 3:
		return enum(m.small())
	case 4:
		return bits(m.string("01"))
	case 5:
		return octets(m.string("\x00\x7f\xab\xff"))
	case 6:
		return chars(m.string("a \"-'{"))
	case 7:
		return real(2*m.Intn(100)-101, m.Intn(2001)-1000)
	case 8:
		return oid(append([]int{m.Intn(3), m.Intn(40)}, make([]int, m.Intn(3))...)...)
	case 9:
		return m.record(depth)
	case 10:
		return union(m.small(), m.value(depth-1))
	case 11:
		return open(m.capital(), m.value(depth-1))
	}
	v := list()
	for range m.Intn(4) {
		v.Items = append(v.Items, m.value(depth-1))
	}
	return v
}

// record returns a record, of which the first names may be those of a real.
func (m maker) record(depth int) api.Value {
	v := record("a", m.value(depth-1))
	switch m.Intn(4) {
	case 0:
		v = record("mantissa base", m.value(depth-1), m.value(depth-1))
	case 1:
		v = record("mantissa base exponent z", number(1), number(2), number(3), m.value(depth-1))
	case 2:
		for _, name := range m.names(3) {
			v.Names = append(v.Names, name)
			v.Items = append(v.Items, m.value(depth-1))
		}
	}
	return v
}

// limit puts a tree behind nodes, and returns them, within LimitSize, LimitFrom or neither (None).
func (m maker) limit(l api.Limits, kind, within, depth int) api.Limits {
	if depth > 0 && m.Intn(2) == 0 {
		l = m.limit(l, kind, within, depth-1)
		first := len(l) - 1
		l = m.limit(l, kind, within, depth-1)
		return append(l, node(api.LimitUnion+m.Intn(3), first, len(l)-1))
	}
	if within == api.None && m.Intn(3) == 0 {
		enclosing := api.LimitSize + m.Intn(2)
		l = m.limit(l, kind, enclosing, min(depth, 2))
		return append(l, node(enclosing, len(l)-1))
	}
	if within != api.LimitSize && m.Intn(2) == 0 {
		switch kind {
		case api.TypeChars, api.TypeRef:
			return append(l, text(m.string("a\" ~")))
		case api.TypeBits:
			return append(l, text(m.string("01")))
		case api.TypeOctets:
			return append(l, text(m.string("\x00\x9a\xff")))
		}
	}
	if within == api.LimitFrom {
		return append(l, span(' '+m.Intn(95), ' '+m.Intn(95)))
	}
	low := m.number()
	return append(l, span(low, []int{low, m.number()}[m.Intn(2)]))
}

func (m maker) limits(kind int) api.Limits {
	if m.Intn(3) > 0 {
		return nil
	}
	l := m.limit(nil, kind, api.None, 2)
	if m.Intn(4) == 0 {
		l = append(l, node(api.LimitMarker, len(l)-1))
	} else if m.Intn(4) == 0 {
		first := len(l) - 1
		l = m.limit(l, kind, api.None, 1)
		l = append(l, node(api.LimitMarker, first, len(l)-1))
	}
	if len(l) > api.MaxLimitNodes {
		return nil
	}
	return l
}

func (m maker) tags() []api.Tag {
	var l []api.Tag
	for range m.Intn(3) * m.Intn(2) {
		l = append(l, api.Tag{Class: 1 + m.Intn(3), Number: m.Intn(9), Way: m.Intn(3)})
	}
	return l
}

// typ returns a type, without uses of parameterized types and classes if it is for a schema.
func (m maker) typ(depth int, forSchema bool) api.Type {
	kinds := []int{api.TypeNull, api.TypeBool, api.TypeInt, api.TypeEnum, api.TypeBits, api.TypeOctets, api.TypeChars, api.TypeOid, api.TypeReal, api.TypeRef}
	if depth > 1 {
		kinds = append(kinds, api.TypeRecord, api.TypeSet, api.TypeList, api.TypeBag, api.TypeUnion, api.TypeOpen)
	}
	y := api.Type{Kind: kinds[m.Intn(len(kinds))]}
	switch y.Kind {
	case api.TypeEnum:
		for i, name := range append(m.names(3), "last") {
			y.Fields = append(y.Fields, item(name, i-m.Intn(2)*100))
		}
		y = m.marked(y, 1)
	case api.TypeChars:
		y.Name = []string{api.Numeric, api.Printable, api.Visible, api.Ia5}[m.Intn(4)]
	case api.TypeRecord, api.TypeSet, api.TypeUnion:
		y = m.withFields(y, depth, forSchema)
	case api.TypeList, api.TypeBag:
		y.Of = []api.Type{m.typ(depth-1, forSchema)}
	case api.TypeOpen:
		if !forSchema {
			y = classField([]string{m.small(), m.capital()}[m.Intn(2)], []string{"C", "S", "i"}[:2+m.Intn(2)]...)
		}
	case api.TypeRef:
		y.Name = m.capital()
		if !forSchema && depth > 1 {
			for range m.Intn(3) {
				y.Fields = append(y.Fields, api.Field{Type: m.typ(depth-1, false)})
			}
		}
	}
	y.Tags = m.tags()
	switch y.Kind {
	case api.TypeInt, api.TypeBits, api.TypeOctets, api.TypeChars, api.TypeList, api.TypeBag, api.TypeRef:
		y.Limits = m.limits(y.Kind)
	}
	return y
}

func (m maker) withFields(y api.Type, depth int, forSchema bool) api.Type {
	names := m.names(3)
	if y.Kind == api.TypeUnion {
		names = append(names, "last")
	}
	for _, name := range names {
		f := field(name, m.typ(depth-1, forSchema))
		if presence := m.Intn(3); y.Kind != api.TypeUnion && presence > 0 {
			f = optional(f)
			if presence > 1 {
				f = defaulted(f, m.value(2))
			}
		}
		y.Fields = append(y.Fields, f)
	}
	if y.Kind == api.TypeUnion {
		return m.marked(y, 1)
	}
	return m.marked(y, 0)
}

// marked puts a marker into a type, and its additions into groups.
func (m maker) marked(y api.Type, least int) api.Type {
	y.Root = len(y.Fields)
	if m.Intn(2) == 0 {
		return y
	}
	y.Open = true
	y.Root = least + m.Intn(len(y.Fields)-least+1)
	group := 0
	for i := y.Root; i < len(y.Fields) && y.Kind != api.TypeEnum; i++ {
		switch m.Intn(3) {
		case 0:
			group++
			y.Fields[i].Group = group
		case 1:
			y.Fields[i].Group = groupBefore(y, i)
		}
	}
	return y
}

// groupBefore returns the group of the field before one.
func groupBefore(y api.Type, index int) int {
	if index == 0 {
		return 0
	}
	return y.Fields[index-1].Group
}

func (m maker) module() api.AsnModule {
	a := api.AsnModule{Name: "M", Way: m.Intn(api.Ways), All: m.Intn(2) == 0}
	for i := range m.Intn(3) {
		a.Imports = append(a.Imports, api.Import{Module: fmt.Sprintf("N%d", i), Names: []string{fmt.Sprintf("n%d", i), fmt.Sprintf("I%d", i)}})
	}
	for i := range m.Intn(6) {
		a.Items = append(a.Items, m.assigned(i))
	}
	if !a.All && len(a.Imports) > 0 {
		a.Exports = append(a.Exports, "I0")
	}
	if !a.All && len(a.Items) > 0 {
		a.Exports = append(a.Exports, a.Items[0].Name)
	}
	return a
}

func (m maker) assigned(i int) api.Assigned {
	a := api.Assigned{Kind: m.Intn(api.ItemKinds), Name: fmt.Sprintf("Z%d", i)}
	switch a.Kind {
	case api.ItemType:
		a.Params = []string{"X", "Y", "Z"}[:m.Intn(4)]
		a.Type = m.typ(3, false)
	case api.ItemValue:
		a.Name = fmt.Sprintf("z%d", i)
		a.Type = m.typ(2, false)
		a.Value = m.value(3)
	case api.ItemClass:
		a.Class = []api.ClassField{{Name: "id", Fixed: []api.Type{m.typ(2, false)}, Unique: m.Intn(2) == 0, Optional: m.Intn(2) == 0}, {Name: "Type", Optional: m.Intn(2) == 0}}[:1+m.Intn(2)]
	case api.ItemObject:
		a.Name = fmt.Sprintf("z%d", i)
		a.Of = "C"
		a.Settings = []api.Setting{{Name: "Type", Type: []api.Type{m.typ(2, false)}}, {Name: "id", Value: []api.Value{m.value(2)}}}[:1+m.Intn(2)]
	case api.ItemObjects:
		a.Of = "C"
		a.Names = m.names(3)
		a.Open = m.Intn(2) == 0
	}
	return a
}
