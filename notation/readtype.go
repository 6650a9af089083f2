package notation

import (
	"strings"

	"examiner/api"
)

// typ reads a type.
func (r *reader) typ() api.Type {
	r.enter()
	defer r.leave()
	var tags []api.Tag
	for r.sees("[") {
		tag := r.tag()
		tags = append(tags, tag)
	}
	t := r.untagged()
	t.Tags = tags
	// The constraint of a list stands before its items, one behind them is theirs.
	if t.Kind != api.TypeList && t.Kind != api.TypeBag {
		t.Limits = r.constraint(t.Kind)
	}
	return t
}

func (r *reader) tag() api.Tag {
	g := api.Tag{Class: api.ClassContext}
	r.must("[")
	switch {
	case r.takes("APPLICATION"):
		g.Class = api.ClassApplication
	case r.takes("PRIVATE"):
		g.Class = api.ClassPrivate
	}
	g.Number = r.digits()
	r.must("]")
	switch {
	case r.takes("IMPLICIT"):
		g.Way = api.TagImplicit
	case r.takes("EXPLICIT"):
		g.Way = api.TagExplicit
	}
	return g
}

// A body is how the types of a kind go on behind their words.
type body struct {
	kind int
	read func(*api.Type)
}

// untagged reads a type without its tags and the constraint behind it.
func (r *reader) untagged() api.Type {
	if r.seesName(isCapital) {
		return r.named()
	}
	if name := r.tokenAt(0).Text; r.seesKind(api.TokenWord) && isStringType(name) {
		r.next++
		return api.Type{Kind: api.TypeChars, Name: name}
	}
	t := api.Type{Kind: r.kind()}
	for _, b := range []body{
		{api.TypeEnum, r.enumeration},
		{api.TypeRecord, r.record},
		{api.TypeSet, r.record},
		{api.TypeUnion, r.choice},
	} {
		if b.kind == t.Kind {
			b.read(&t)
			break
		}
	}
	return t
}

// kind reads the words with which a type begins. (Lists begin as records and sets do.)
func (r *reader) kind() int {
	for kind, words := range typeWords {
		first, rest, _ := strings.Cut(words, " ")
		if first != "" && r.takes(first) {
			r.must(strings.Fields(rest)...)
			return kind
		}
	}
	r.wrong()
	return api.None
}

// record reads what stands behind SEQUENCE or SET: fields, or OF and the type of items.
func (r *reader) record(t *api.Type) {
	if r.sees("{") {
		r.fields(t)
		return
	}
	if t.Kind == api.TypeRecord {
		t.Kind = api.TypeList
	} else {
		t.Kind = api.TypeBag
	}
	t.Limits = r.constraint(t.Kind)
	r.must("OF")
	of := r.typ()
	t.Of = []api.Type{of}
}

func (r *reader) fields(t *api.Type)      { r.members(t, r.field) }
func (r *reader) choice(t *api.Type)      { r.members(t, r.alternative) }
func (r *reader) enumeration(t *api.Type) { r.members(t, r.item) }

// members reads the fields of a type, with the marker and the groups.
func (r *reader) members(t *api.Type, member func() api.Field) {
	r.must("{")
	groups := 0
	for more := !r.sees("}"); more; more = r.takes(",") {
		switch {
		case !t.Open && r.takes("..."):
			t.Open = true
			t.Root = len(t.Fields)
		case t.Open && t.Kind != api.TypeEnum && r.takes("[["):
			groups++
			fields := readList(r, ",", member)
			for i := range fields {
				fields[i].Group = groups
			}
			t.Fields = append(t.Fields, fields...)
			r.must("]]")
		default:
			f := member()
			t.Fields = append(t.Fields, f)
		}
	}
	r.must("}")
	if !t.Open {
		t.Root = len(t.Fields)
	}
}

// item reads an item of an enumeration.
func (r *reader) item() api.Field {
	var f api.Field
	f.Name = r.smallName()
	r.must("(")
	f.Number = r.number()
	r.must(")")
	return f
}

// alternative reads a field of a union, which is always there.
func (r *reader) alternative() api.Field {
	var f api.Field
	f.Name = r.smallName()
	f.Type = r.typ()
	return f
}

// field reads a field of a record or a set.
func (r *reader) field() api.Field {
	f := r.alternative()
	switch {
	case r.takes("OPTIONAL"):
		f.Presence = api.FieldOptional
	case r.takes("DEFAULT"):
		f.Presence = api.FieldDefault
		v := r.value()
		f.Default = []api.Value{v}
	}
	return f
}

// named reads a type that begins with a name: a reference, or the field of a class.
func (r *reader) named() api.Type {
	name := r.capitalName()
	if r.sees(".") {
		return r.open(name)
	}
	t := api.Type{Kind: api.TypeRef, Name: name}
	if r.takes("{") {
		t.Fields = readList(r, ",", r.parameter)
		r.must("}")
	}
	return t
}

// parameter reads an actual parameter.
func (r *reader) parameter() api.Field {
	t := r.typ()
	return api.Field{Type: t}
}

// open reads what stands behind the name of a class.
func (r *reader) open(class string) api.Type {
	t := api.Type{Kind: api.TypeOpen}
	r.must(".", "&")
	t.Name = r.anyName()
	r.must("(", "{")
	set := r.capitalName()
	t.Fields = []api.Field{{Name: class}, {Name: set}}
	r.must("}")
	if r.takes("{") {
		r.must("@")
		component := r.smallName()
		t.Fields = append(t.Fields, api.Field{Name: component})
		r.must("}")
	}
	r.must(")")
	return t
}
