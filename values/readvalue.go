package values

import (
	"examiner/api"
	"examiner/notation"
)

// value reads a value as a type says.
func (r *reader) value(t api.Type) api.Value {
	r.enter()
	defer r.leave()
	t, e := r.followed(t)
	if e != api.OK {
		r.fail(e)
	}
	switch t.Kind {
	case api.TypeBits:
		return r.literal(api.TokenBits)
	case api.TypeOctets:
		return r.literal(api.TokenOctets)
	case api.TypeChars:
		return r.literal(api.TokenChars)
	case api.TypeOid:
		return r.oid()
	case api.TypeReal:
		return r.real()
	case api.TypeRecord, api.TypeSet:
		return r.record(t)
	case api.TypeList, api.TypeBag:
		return r.list(t)
	case api.TypeUnion:
		return r.union(t)
	case api.TypeOpen:
		return r.open()
	}
	return r.word(t)
}

// word reads a value without parts that is no string.
func (r *reader) word(t api.Type) api.Value {
	switch t.Kind {
	case api.TypeBool:
		return r.truth()
	case api.TypeInt:
		n := r.number()
		return api.Value{Kind: api.ValueInt, N: n}
	case api.TypeEnum:
		s := r.token(api.TokenName)
		return api.Value{Kind: api.ValueEnum, S: s}
	}
	r.must("NULL")
	return api.Value{Kind: api.ValueNull}
}

func (r *reader) truth() api.Value {
	if r.takes("TRUE") {
		return api.Value{Kind: api.ValueBool, N: 1}
	}
	r.must("FALSE")
	return api.Value{Kind: api.ValueBool}
}

// literal reads a string, which is the same whatever its type is.
func (r *reader) literal(kind int) api.Value {
	v, _, _ := notation.ParsePlain(r.token(kind)) // no error, since the token is such a value
	return v
}

func (r *reader) oid() api.Value {
	v := api.Value{Kind: api.ValueOid}
	r.must("{")
	for r.seesKind(api.TokenNumber) {
		r.enter()
		n := r.digits()
		r.leave()
		v.Items = append(v.Items, api.Value{Kind: api.ValueInt, N: n})
	}
	r.must("}")
	return v
}

func (r *reader) real() api.Value {
	v := api.Value{Kind: api.ValueReal}
	r.must("{", "mantissa")
	v.N = r.number()
	r.must(",", "base", "2", ",", "exponent")
	v.E = r.number()
	r.must("}")
	return v
}

// record reads fields, in whatever order they stand.
func (r *reader) record(t api.Type) api.Value {
	v := api.Value{Kind: api.ValueRecord}
	r.enclosed(func() {
		name, item := r.field(t)
		v.Names = append(v.Names, name)
		v.Items = append(v.Items, item)
	})
	return v
}

// field reads the name of a field of a type, perhaps symbols, and its value.
func (r *reader) field(t api.Type, between ...string) (string, api.Value) {
	name := r.name(func(name string) bool { return fieldNamed(t, name) != api.None })
	r.must(between...)
	item := r.value(t.Fields[fieldNamed(t, name)].Type)
	return name, item
}

// list reads a list or a bag.
func (r *reader) list(t api.Type) api.Value {
	v := api.Value{Kind: api.ValueList}
	if t.Kind == api.TypeBag {
		v.Kind = api.ValueBag
	}
	r.enclosed(func() {
		item := r.value(t.Of[0])
		v.Items = append(v.Items, item)
	})
	sortBag(v)
	return v
}

// enclosed reads what stands in braces, item by item.
func (r *reader) enclosed(item func()) {
	r.must("{")
	if r.takes("}") {
		return
	}
	item()
	for r.takes(",") {
		item()
	}
	r.must("}")
}

func (r *reader) union(t api.Type) api.Value {
	name, item := r.field(t, ":")
	return api.Value{Kind: api.ValueUnion, Names: []string{name}, Items: []api.Value{item}}
}

// open reads a value behind the name of its type, or octets.
func (r *reader) open() api.Value {
	if r.seesKind(api.TokenOctets) {
		octets := r.value(api.Type{Kind: api.TypeOctets})
		return api.Value{Kind: api.ValueOpen, Items: []api.Value{octets}}
	}
	name := r.name(func(name string) bool { return isNamed(r.schema, name) })
	r.must(":")
	item := r.value(api.Type{Kind: api.TypeRef, Name: name})
	return api.Value{Kind: api.ValueOpen, S: name, Items: []api.Value{item}}
}
