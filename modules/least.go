package modules

import (
	"examiner/api"
	"examiner/limits"
)

// parts are what the least value of a type has within it: values of fields (of a list, of one without a name), once or as often as it says.
type parts struct {
	fields []api.Field
	times  int
}

// partsOf returns the parts of the least value of a type that has a height.
func (h heights) partsOf(t api.Type) parts {
	switch t.Kind {
	case api.TypeRecord, api.TypeSet:
		return parts{needed(t), 1}
	case api.TypeUnion:
		i, _ := h.leastField(t)
		return parts{t.Fields[i : i+1], 1}
	case api.TypeList, api.TypeBag:
		least, _ := limits.LeastOf(t)
		return parts{[]api.Field{{Type: t.Of[0]}}, least.N}
	}
	return parts{}
}

// isEmpty returns whether the constraint of a type within the least value of a type permits no value. Named types are asked once, because they may be met far too often.
func (h heights) isEmpty(t api.Type, asked map[string]bool) bool {
	if t.Kind == api.TypeRef {
		if asked[t.Name] {
			return false
		}
		asked[t.Name] = true
		return h.isEmpty(named(h.schema, t.Name), asked)
	}
	if permitsNothing(t) {
		return true
	}
	p := h.partsOf(t)
	if p.times == 0 {
		return false
	}
	for _, f := range p.fields {
		if h.isEmpty(f.Type, asked) {
			return true
		}
	}
	return false
}

// permitsNothing returns whether no value satisfies the constraint of a type.
func permitsNothing(t api.Type) bool {
	_, e := limits.LeastOf(t)
	return e == api.ErrNone
}

// A builder builds least values as long as there are not too many values within one.
type builder struct {
	heights
	count int
}

func (b *builder) isFull() bool { return b.count > api.MaxValueNodes }

// least returns the least value of a type, or a part of it if that is too large.
func (b *builder) least(t api.Type) api.Value {
	for t.Kind == api.TypeRef {
		t = named(b.schema, t.Name)
	}
	b.count++
	switch t.Kind {
	case api.TypeRecord, api.TypeSet:
		return b.withParts(api.Value{Kind: api.ValueRecord}, b.partsOf(t))
	case api.TypeUnion:
		return b.withParts(api.Value{Kind: api.ValueUnion}, b.partsOf(t))
	case api.TypeList:
		return b.withParts(api.Value{Kind: api.ValueList}, b.partsOf(t))
	case api.TypeBag:
		return b.withParts(api.Value{Kind: api.ValueBag}, b.partsOf(t))
	}
	v := leastScalar(t)
	b.count += len(v.Items)
	return v
}

// withParts returns a value with its parts.
func (b *builder) withParts(v api.Value, p parts) api.Value {
	for range p.times {
		for _, f := range p.fields {
			if b.isFull() {
				return v
			}
			if f.Name != "" {
				v.Names = append(v.Names, f.Name)
			}
			v.Items = append(v.Items, b.least(f.Type))
		}
	}
	return v
}

// leastScalar returns the least value of a type that has no types within it.
func leastScalar(t api.Type) api.Value {
	switch t.Kind {
	case api.TypeNull:
		return api.Value{Kind: api.ValueNull}
	case api.TypeBool:
		return api.Value{Kind: api.ValueBool}
	case api.TypeEnum:
		return api.Value{Kind: api.ValueEnum, S: leastItem(t).Name}
	case api.TypeOid:
		return api.Value{Kind: api.ValueOid, Items: []api.Value{{Kind: api.ValueInt}, {Kind: api.ValueInt}}}
	case api.TypeReal:
		return api.Value{Kind: api.ValueReal}
	case api.TypeOpen:
		return api.Value{Kind: api.ValueOpen, Items: []api.Value{{Kind: api.ValueOctets}}}
	}
	v, _ := limits.LeastOf(t)
	return v
}

// leastItem returns the item in the root of an enumeration that has the least number.
func leastItem(t api.Type) api.Field {
	least := t.Fields[0]
	for _, f := range t.Fields[:t.Root] {
		if f.Number < least.Number {
			least = f
		}
	}
	return least
}
