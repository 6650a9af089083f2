package notation

import "examiner/api"

// value reads a plain value.
func (r *reader) value() api.Value {
	r.enter()
	defer r.leave()
	for _, k := range literals() {
		if r.seesKind(k.token) {
			s := k.decoded(r.token(k.token))
			return api.Value{Kind: k.value, S: s}
		}
	}
	switch {
	case r.takes("NULL"):
		return api.Value{Kind: api.ValueNull}
	case r.takes("FALSE"):
		return api.Value{Kind: api.ValueBool}
	case r.takes("TRUE"):
		return api.Value{Kind: api.ValueBool, N: 1}
	case r.seesNumber():
		n := r.number()
		return api.Value{Kind: api.ValueInt, N: n}
	case r.seesKind(api.TokenName):
		return r.namedValue()
	case r.takes("{"):
		return r.enclosedValue()
	}
	r.wrong()
	return api.Value{}
}

// namedValue reads an item of an enumeration, or a value with a name before it.
func (r *reader) namedValue() api.Value {
	if r.seesName(isCapital) {
		v := api.Value{Kind: api.ValueOpen}
		v.S = r.capitalName()
		r.must(":")
		v.Items = r.oneValue()
		return v
	}
	name := r.smallName()
	if !r.takes(":") {
		return api.Value{Kind: api.ValueEnum, S: name}
	}
	items := r.oneValue()
	return api.Value{Kind: api.ValueUnion, Names: []string{name}, Items: items}
}

func (r *reader) oneValue() []api.Value {
	v := r.value()
	return []api.Value{v}
}

// enclosedValue reads what stands behind an opening brace: an object identifier, a record or a list.
func (r *reader) enclosedValue() api.Value {
	var v api.Value
	switch {
	case r.sees("}"):
		v = api.Value{Kind: api.ValueList}
	case r.seesKind(api.TokenNumber) && r.tokenAt(1).Kind == api.TokenNumber:
		v = r.oid()
	case r.seesName(isSmall) && !r.isItem():
		v = r.recordValue()
	default:
		items := readList(r, ",", r.value)
		v = api.Value{Kind: api.ValueList, Items: items}
	}
	r.must("}")
	return v
}

// isItem returns whether the name that is next is, or begins, an item of a list: what is behind it cannot stand behind the name of a field.
func (r *reader) isItem() bool {
	switch r.tokenAt(1).Text {
	case ",", "}", ":":
		return true
	}
	return false
}

func (r *reader) oid() api.Value {
	v := api.Value{Kind: api.ValueOid}
	for r.seesKind(api.TokenNumber) {
		n := r.value()
		v.Items = append(v.Items, n)
	}
	return v
}

// recordValue reads a record, or a real, which looks like one up to its end.
func (r *reader) recordValue() api.Value {
	v := api.Value{Kind: api.ValueRecord}
	for more := true; more; more = r.takes(",") {
		name := r.smallName()
		item := r.value()
		v.Names = append(v.Names, name)
		v.Items = append(v.Items, item)
	}
	if r.sees("}") && isRealNames(v.Names) {
		return r.real(v.Items)
	}
	return v
}

// real returns the real whose parts were read. Other values with the names of its parts have no text, so that the brace that ends them cannot stand there.
func (r *reader) real(parts []api.Value) api.Value {
	for _, p := range parts {
		if p.Kind != api.ValueInt {
			r.wrong()
		}
	}
	if parts[1].N != realBase {
		r.wrong()
	}
	return api.Value{Kind: api.ValueReal, N: parts[0].N, E: parts[2].N}
}
