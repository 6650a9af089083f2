package tags

import (
	"slices"

	"examiner/api"
)

// clashWithin returns the first clash within a type.
func (b beginnings) clashWithin(t api.Type) (api.TagClash, bool) {
	if c, clashes := b.clash(t); clashes {
		return c, true
	}
	for i, f := range t.Fields {
		if c, clashes := b.clashWithin(f.Type); clashes {
			return inside(i, c), true
		}
	}
	for i, of := range t.Of {
		if c, clashes := b.clashWithin(of); clashes {
			return inside(i, c), true
		}
	}
	return api.TagClash{}, false
}

// inside returns a clash as it is seen from the type around the one in which it was found.
func inside(index int, c api.TagClash) api.TagClash {
	c.Way = slices.Insert(c.Way, 0, index)
	return c
}

// clash returns the first clash of the fields of a type themselves.
func (b beginnings) clash(t api.Type) (api.TagClash, bool) {
	all := b.ofFields(t)
	for first := range all {
		for second := first + 1; second < endOfRivals(t, first); second++ {
			if pair, clashes := common(all[first], all[second]); clashes {
				return api.TagClash{First: first, Second: second, Tag: pair}, true
			}
		}
	}
	return api.TagClash{}, false
}

// endOfRivals returns the index behind the last field from which one must be told apart.
func endOfRivals(t api.Type, field int) int {
	switch t.Kind {
	case api.TypeUnion, api.TypeSet:
		return len(t.Fields)
	case api.TypeRecord:
		for i := field; i < len(t.Fields); i++ {
			if isCertain(t, i) {
				return i + 1
			}
		}
		return len(t.Fields)
	}
	return 0
}

// isCertain returns whether a field of a record is always there.
func isCertain(t api.Type, field int) bool {
	return field < t.Root && t.Fields[field].Presence == api.FieldMust
}

// common returns the least pair with which both of two may begin, if there is one; with anything everything is common, but no pair belongs to it.
func common(a, b beginning) (api.TagPair, bool) {
	switch {
	case a.anything && b.anything:
		return api.TagPair{}, true
	case a.anything:
		return b.least(), true
	case b.anything:
		return a.least(), true
	}
	for _, pair := range a.pairs {
		if _, shared := slices.BinarySearchFunc(b.pairs, pair, comparePairs); shared {
			return pair, true
		}
	}
	return api.TagPair{}, false
}
