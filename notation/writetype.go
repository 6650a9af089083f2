package notation

import (
	"strings"

	"examiner/api"
)

// typeWords are the words with which types of a kind begin; none where a name does.
var typeWords = [api.TypeKinds]string{
	api.TypeNull:   "NULL",
	api.TypeBool:   "BOOLEAN",
	api.TypeInt:    "INTEGER",
	api.TypeEnum:   "ENUMERATED",
	api.TypeBits:   "BIT STRING",
	api.TypeOctets: "OCTET STRING",
	api.TypeOid:    "OBJECT IDENTIFIER",
	api.TypeReal:   "REAL",
	api.TypeRecord: "SEQUENCE",
	api.TypeSet:    "SET",
	api.TypeList:   "SEQUENCE",
	api.TypeBag:    "SET",
	api.TypeUnion:  "CHOICE",
}

// typ writes a type that is right.
func (w *writer) typ(t api.Type) {
	for _, g := range t.Tags {
		w.tag(g)
	}
	w.fixed(strings.Fields(typeWords[t.Kind])...)
	switch t.Kind {
	case api.TypeChars:
		w.fixed(t.Name)
	case api.TypeEnum:
		w.members(t, w.item)
	case api.TypeRecord, api.TypeSet, api.TypeUnion:
		w.members(t, w.field)
	case api.TypeOpen:
		w.open(t)
	case api.TypeRef:
		w.reference(t)
	}
	w.constraint(t)
	if t.Kind == api.TypeList || t.Kind == api.TypeBag {
		w.fixed("OF")
		w.typ(t.Of[0])
	}
}

func (w *writer) tag(g api.Tag) {
	w.fixed("[")
	switch g.Class {
	case api.ClassApplication:
		w.fixed("APPLICATION")
	case api.ClassPrivate:
		w.fixed("PRIVATE")
	}
	w.number(g.Number)
	w.fixed("]")
	switch g.Way {
	case api.TagImplicit:
		w.fixed("IMPLICIT")
	case api.TagExplicit:
		w.fixed("EXPLICIT")
	}
}

// members writes the fields of a type, with the marker and the groups.
func (w *writer) members(t api.Type, member func(api.Field)) {
	w.fixed("{")
	for i, f := range t.Fields {
		if i > 0 {
			w.fixed(",")
		}
		if t.Open && i == t.Root {
			w.fixed("...", ",")
		}
		if f.Group != 0 && f.Group != groupAt(t.Fields, i-1) {
			w.fixed("[[")
		}
		member(f)
		if f.Group != 0 && f.Group != groupAt(t.Fields, i+1) {
			w.fixed("]]")
		}
	}
	if t.Open && t.Root == len(t.Fields) {
		if t.Root > 0 {
			w.fixed(",")
		}
		w.fixed("...")
	}
	w.fixed("}")
}

// groupAt returns the group of a field, or 0 if there is no such field.
func groupAt(l []api.Field, index int) int {
	if index < 0 || index >= len(l) {
		return 0
	}
	return l[index].Group
}

// item writes an item of an enumeration.
func (w *writer) item(f api.Field) {
	w.smallName(f.Name)
	w.fixed("(")
	w.number(f.Number)
	w.fixed(")")
}

func (w *writer) field(f api.Field) {
	w.smallName(f.Name)
	w.typ(f.Type)
	switch f.Presence {
	case api.FieldOptional:
		w.fixed("OPTIONAL")
	case api.FieldDefault:
		w.fixed("DEFAULT")
		w.value(f.Default[0])
	}
}

// open writes an open type, which has a text only as the field of a class.
func (w *writer) open(t api.Type) {
	if len(t.Fields) == 0 {
		w.refuse()
	}
	w.capitalName(t.Fields[0].Name)
	w.fixed(".", "&")
	w.anyName(t.Name)
	w.fixed("(", "{")
	w.capitalName(t.Fields[1].Name)
	w.fixed("}")
	if len(t.Fields) == maxOpenNames {
		w.fixed("{", "@")
		w.smallName(t.Fields[2].Name)
		w.fixed("}")
	}
	w.fixed(")")
}

func (w *writer) reference(t api.Type) {
	w.capitalName(t.Name)
	if len(t.Fields) == 0 {
		return
	}
	w.fixed("{")
	writeList(w, ",", t.Fields, func(f api.Field) { w.typ(f.Type) })
	w.fixed("}")
}
