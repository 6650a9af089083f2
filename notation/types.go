package notation

import "examiner/api"

const (
	maxTags      = 3
	maxOpenNames = 3 // names behind an open type: its class, the object set, the component
)

// fieldParts says what the fields of a kind of type have.
type fieldParts struct{ name, number, typ, presence, group bool }

// kindParts says what types of a kind have beside their tags.
type kindParts struct {
	name, limits, root, of, fields bool
	field                          fieldParts
}

var typeParts = [api.TypeKinds]kindParts{
	api.TypeInt:    {limits: true},
	api.TypeEnum:   {root: true, fields: true, field: fieldParts{name: true, number: true}},
	api.TypeBits:   {limits: true},
	api.TypeOctets: {limits: true},
	api.TypeChars:  {name: true, limits: true},
	api.TypeRecord: {root: true, fields: true, field: fieldParts{name: true, typ: true, presence: true, group: true}},
	api.TypeSet:    {root: true, fields: true, field: fieldParts{name: true, typ: true, presence: true, group: true}},
	api.TypeList:   {limits: true, of: true},
	api.TypeBag:    {limits: true, of: true},
	api.TypeUnion:  {root: true, fields: true, field: fieldParts{name: true, typ: true, group: true}},
	api.TypeOpen:   {name: true, fields: true, field: fieldParts{name: true}},
	api.TypeRef:    {name: true, limits: true, fields: true, field: fieldParts{typ: true}},
}

// typeError returns the first error of the types within a type that is not too large.
func typeError(t api.Type) api.Errno {
	if e := ownTypeError(t); e != api.OK {
		return e
	}
	for _, f := range t.Fields {
		if e := typeError(f.Type); e != api.OK {
			return e
		}
		for _, v := range f.Default {
			if e := CheckForm(v); e != api.OK {
				return e
			}
		}
	}
	for _, of := range t.Of {
		if e := typeError(of); e != api.OK {
			return e
		}
	}
	return api.OK
}

// ownTypeError is about a type without those within it.
func ownTypeError(t api.Type) api.Errno {
	if t.Kind < 0 || t.Kind >= api.TypeKinds {
		return api.ErrKind
	}
	c := typeCheck{t, typeParts[t.Kind]}
	return firstBroken(
		rule{api.ErrLarge, c.hasTooMany},
		rule{api.ErrRange, c.isOutOfRange},
		rule{api.ErrForm, c.hasForeign},
		rule{api.ErrShape, c.isMisshapen},
		rule{api.ErrName, c.isMisnamed},
		rule{api.ErrDouble, c.hasTwice},
		rule{api.ErrOrder, c.isDisordered},
		rule{api.ErrRange, c.hasGreatNumber},
	)
}

// A typeCheck is a type, and what its kind has. Its methods tell what is wrong.
type typeCheck struct {
	api.Type
	has kindParts
}

func (c typeCheck) hasTooMany() bool {
	return len(c.Tags) > maxTags || len(c.Fields) > api.MaxFields || c.Kind == api.TypeRef && len(c.Fields) > api.MaxParams
}

func (c typeCheck) isOutOfRange() bool {
	for _, g := range c.Tags {
		if !isTag(g) {
			return true
		}
	}
	for _, f := range c.Fields {
		if f.Presence < 0 || f.Presence >= api.Presences || f.Group < 0 {
			return true
		}
	}
	return c.Root < 0 || c.Root > len(c.Fields)
}

func isTag(g api.Tag) bool {
	return g.Class > api.ClassUniversal && g.Class < api.Classes && g.Number >= 0 && g.Number <= api.MaxTag && g.Way >= 0 && g.Way < api.TagWays
}

func (c typeCheck) hasForeign() bool {
	if !c.has.name && c.Name != "" || !c.has.limits && len(c.Limits) > 0 || !c.has.of && len(c.Of) > 0 || !c.has.fields && len(c.Fields) > 0 || c.hasForeignRoot() {
		return true
	}
	for i, f := range c.Fields {
		if c.has.field.areExceeded(f) || i < c.Root && f.Group != 0 {
			return true
		}
	}
	return false
}

// hasForeignRoot returns whether a type of a kind without a root has one, or one without a marker has additions.
func (c typeCheck) hasForeignRoot() bool {
	if !c.has.root {
		return c.Open || c.Root != 0
	}
	return !c.Open && c.Root != len(c.Fields)
}

// areExceeded returns whether a field has something that its kind of type does not give it.
func (p fieldParts) areExceeded(f api.Field) bool {
	return !p.name && f.Name != "" || !p.number && f.Number != 0 || !p.typ && !isZeroType(f.Type) ||
		!p.presence && f.Presence != api.FieldMust || !p.group && f.Group != 0 ||
		f.Presence != api.FieldDefault && len(f.Default) > 0
}

func isZeroType(t api.Type) bool {
	return t.Kind == 0 && t.Name == "" && len(t.Tags) == 0 && len(t.Fields) == 0 && !t.Open && t.Root == 0 && len(t.Of) == 0 && len(t.Limits) == 0
}

func (c typeCheck) isMisshapen() bool {
	if c.has.of && len(c.Of) != 1 || !c.hasRightFields() || !isTree(c.Limits) {
		return true
	}
	for _, f := range c.Fields {
		if f.Presence == api.FieldDefault && len(f.Default) != 1 {
			return true
		}
	}
	return false
}

// hasRightFields returns whether there are as many fields as there must be.
func (c typeCheck) hasRightFields() bool {
	switch c.Kind {
	case api.TypeEnum, api.TypeUnion:
		return c.Root > 0
	case api.TypeOpen:
		if c.Name == "" {
			return len(c.Fields) == 0
		}
		return len(c.Fields) == maxOpenNames || len(c.Fields) == maxOpenNames-1
	}
	return true
}

func (c typeCheck) isMisnamed() bool {
	for _, f := range c.Fields {
		if c.has.field.name && !isName(f.Name) {
			return true
		}
	}
	switch c.Kind {
	case api.TypeChars:
		return !isStringType(c.Name)
	case api.TypeOpen:
		return c.Name != "" && !isName(c.Name)
	case api.TypeRef:
		return !isName(c.Name)
	}
	return false
}

func isStringType(name string) bool {
	switch name {
	case api.Numeric, api.Printable, api.Visible, api.Ia5:
		return true
	}
	return false
}

// hasTwice returns whether there are two fields with one name, or two items of an enumeration with one number.
func (c typeCheck) hasTwice() bool {
	var names []string
	var numbers []int
	for i, f := range c.Fields {
		names = append(names, f.Name)
		numbers = append(numbers, f.Number)
		if c.has.field.name && isRepeated(names, i) || c.has.field.number && isRepeated(numbers, i) {
			return true
		}
	}
	return false
}

// isDisordered returns whether groups do not count up from 1, or one of them is torn.
func (c typeCheck) isDisordered() bool {
	last, before := 0, 0
	for _, f := range c.Fields {
		switch f.Group {
		case 0, before:
		case last + 1:
			last++
		default:
			return true
		}
		before = f.Group
	}
	return false
}

func (c typeCheck) hasGreatNumber() bool {
	for _, f := range c.Fields {
		if !isInteger(f.Number) {
			return true
		}
	}
	return false
}
