package tags

import (
	"cmp"
	"slices"

	"examiner/api"
)

// classLetters are the letters of the classes in texts.
const classLetters = "UACP"

// noUniversal is the number that kinds without a universal tag have.
const noUniversal = 0

// universalNumbers are the numbers of universal tags by kinds; of TypeChars they depend on the string type.
var universalNumbers = [api.TypeKinds]int{
	api.TypeNull:   api.UniversalNull,
	api.TypeBool:   api.UniversalBool,
	api.TypeInt:    api.UniversalInt,
	api.TypeEnum:   api.UniversalEnum,
	api.TypeBits:   api.UniversalBits,
	api.TypeOctets: api.UniversalOctets,
	api.TypeOid:    api.UniversalOid,
	api.TypeReal:   api.UniversalReal,
	api.TypeRecord: api.UniversalSequence,
	api.TypeSet:    api.UniversalSet,
	api.TypeList:   api.UniversalSequence,
	api.TypeBag:    api.UniversalSet,
}

// universalNumber returns the number of the universal tag of the kind of a type.
func universalNumber(t api.Type) int {
	if t.Kind != api.TypeChars {
		return universalNumbers[t.Kind]
	}
	switch t.Name {
	case api.Numeric:
		return api.UniversalNumeric
	case api.Printable:
		return api.UniversalPrintable
	case api.Ia5:
		return api.UniversalIa5
	}
	return api.UniversalVisible
}

// pairsOf returns the pairs of a settled type.
func pairsOf(s api.Schema, t api.Type) []api.TagPair {
	pairs := untaggedPairs(s, t)
	for _, g := range slices.Backward(t.Tags) {
		pair := api.TagPair{Class: g.Class, Number: g.Number}
		if g.Way == api.TagImplicit {
			pairs[0] = pair
		} else {
			pairs = slices.Insert(pairs, 0, pair)
		}
	}
	return pairs
}

// untaggedPairs returns the pairs that a type has without its own tags.
func untaggedPairs(s api.Schema, t api.Type) []api.TagPair {
	if t.Kind == api.TypeRef {
		return pairsOf(s, named(s, t.Name))
	}
	number := universalNumber(t)
	if number == noUniversal {
		return nil
	}
	return []api.TagPair{{Class: api.ClassUniversal, Number: number}}
}

// comparePairs is the order of pairs.
func comparePairs(a, b api.TagPair) int {
	return cmp.Or(cmp.Compare(a.Class, b.Class), cmp.Compare(a.Number, b.Number))
}
