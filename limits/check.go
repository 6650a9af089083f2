package limits

import (
	"slices"

	"examiner/api"
	"examiner/notation"
)

// What a node of a constraint is about.
const (
	aboutNothing = iota
	aboutNumbers
	aboutStrings // of bits or octets
	aboutTexts   // strings of characters
	aboutLists
	aboutSizes
	aboutCharacters
)

// typeError is the error of a type without the place.
func typeError(t api.Type) api.Errno {
	_, e := CheckLimits(t)
	return e
}

// subjectOf returns what the constraint of a type of a kind is about.
func subjectOf(kind int) int {
	switch kind {
	case api.TypeInt:
		return aboutNumbers
	case api.TypeBits, api.TypeOctets:
		return aboutStrings
	case api.TypeChars:
		return aboutTexts
	case api.TypeList, api.TypeBag:
		return aboutLists
	}
	return aboutNothing
}

func isString(kind int) bool {
	about := subjectOf(kind)
	return about == aboutStrings || about == aboutTexts
}

func isList(kind int) bool { return subjectOf(kind) == aboutLists }

// subjects returns what each node of the constraint of a type is about.
func subjects(t api.Type) []int {
	l := make([]int, len(t.Limits))
	for i, n := range slices.Backward(t.Limits) {
		if i == len(l)-1 {
			l[i] = subjectOf(t.Kind)
		}
		for _, arg := range n.Args {
			l[arg] = operandSubject(n.Kind, l[i])
		}
	}
	return l
}

// operandSubject returns what operands are about, by the kind of their node and what it is about itself.
func operandSubject(kind, about int) int {
	switch kind {
	case api.LimitSize:
		return aboutSizes
	case api.LimitFrom:
		return aboutCharacters
	}
	return about
}

// nodeError is about a node of the constraint of a type without its operands.
func nodeError(t api.Type, index, about int) api.Errno {
	n := t.Limits[index]
	switch {
	case n.Kind == api.LimitMarker && index != len(t.Limits)-1:
		return api.ErrState
	case !mayStand(n.Kind, about):
		return api.ErrType
	case n.Kind == api.LimitRange && !isWithin(spanOf(n), bounds(t.Kind, about)):
		return api.ErrRange
	case n.Kind == api.LimitText && !isText(t, about, n.Text):
		return api.ErrType
	case len(n.Text) > api.MaxString:
		return api.ErrLarge
	}
	return api.OK
}

// mayStand returns whether a node of a kind may stand where something is spoken about.
func mayStand(kind, about int) bool {
	switch kind {
	case api.LimitRange:
		return about == aboutNumbers || about == aboutSizes || about == aboutCharacters
	case api.LimitText:
		return about == aboutStrings || about == aboutTexts || about == aboutCharacters
	case api.LimitSize:
		return about == aboutStrings || about == aboutTexts || about == aboutLists
	case api.LimitFrom:
		return about == aboutTexts
	}
	return true
}

// bounds returns the numbers that a node may have of what it is about.
func bounds(kind, about int) api.Span {
	switch about {
	case aboutSizes:
		return sizesOf(kind)
	case aboutCharacters:
		return asciiCharacters()
	}
	return wholeNumbers()
}

// isText returns whether a string may stand in a node: as a value of the type, or within LimitFrom.
func isText(t api.Type, about int, s string) bool {
	if about == aboutCharacters {
		return s != "" && areAmong(s, []api.Span{asciiCharacters()})
	}
	return areAmong(s, alphabetOf(t))
}

// isOpen returns whether a constraint has a marker.
func isOpen(l api.Limits) bool {
	return len(l) > 0 && l[len(l)-1].Kind == api.LimitMarker
}

// rootOf returns a constraint without its marker and its additions.
func rootOf(l api.Limits) api.Limits {
	if !isOpen(l) {
		return l
	}
	return l[:l[len(l)-1].Args[0]+1]
}

var valueKinds = [api.TypeKinds]int{
	api.TypeNull:   api.ValueNull,
	api.TypeBool:   api.ValueBool,
	api.TypeInt:    api.ValueInt,
	api.TypeEnum:   api.ValueEnum,
	api.TypeBits:   api.ValueBits,
	api.TypeOctets: api.ValueOctets,
	api.TypeChars:  api.ValueChars,
	api.TypeOid:    api.ValueOid,
	api.TypeReal:   api.ValueReal,
	api.TypeRecord: api.ValueRecord,
	api.TypeSet:    api.ValueRecord,
	api.TypeList:   api.ValueList,
	api.TypeBag:    api.ValueBag,
	api.TypeUnion:  api.ValueUnion,
	api.TypeOpen:   api.ValueOpen,
	api.TypeRef:    api.None,
}

// valueError is the error of a type, and of a value that must be of its kind.
func valueError(t api.Type, v api.Value) api.Errno {
	if e := typeError(t); e != api.OK {
		return e
	}
	if e := notation.CheckForm(v); e != api.OK {
		return e
	}
	if v.Kind != valueKinds[t.Kind] || t.Kind == api.TypeChars && !areAmong(v.S, alphabetOf(t)) {
		return api.ErrType
	}
	return api.OK
}
