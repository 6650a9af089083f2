package tags_test

import (
	"cmp"
	"math/rand"
	"slices"
	"testing"

	"examiner/api"
	"examiner/tags"
)

// What follows computes the results of chapter 3 in other ways, which take more time.

func lookUp(s api.Schema, name string) api.Type {
	return s[slices.IndexFunc(s, func(n api.Named) bool { return n.Name == name })].Type
}

// leadsFar returns whether a type leads to so many references, one behind the other.
func leadsFar(s api.Schema, y api.Type, references int) bool {
	switch {
	case references == 0:
		return true
	case y.Kind == api.TypeRef:
		return leadsFar(s, lookUp(s, y.Name), references-1)
	case y.Kind == api.TypeUnion:
		return slices.ContainsFunc(y.Fields, func(f api.Field) bool {
			return len(f.Type.Tags) == 0 && leadsFar(s, f.Type, references)
		})
	}
	return false
}

// allTags returns the tags of a type behind all references, and the kind there.
func allTags(s api.Schema, y api.Type) ([]api.Tag, api.Type) {
	var l []api.Tag
	for {
		l = append(l, y.Tags...)
		if y.Kind != api.TypeRef {
			return l, y
		}
		y = lookUp(s, y.Name)
	}
}

// standsBeforeNothing returns whether a tag of a type has neither a tag nor a universal one behind it.
func standsBeforeNothing(s api.Schema, y api.Type, index int) bool {
	y.Tags = y.Tags[index+1:]
	l, end := allTags(s, y)
	return len(l) == 0 && (end.Kind == api.TypeUnion || end.Kind == api.TypeOpen)
}

func settledBy(s api.Schema, way int) api.Schema {
	if way == api.WayAutomatic {
		s = mappedSchema(s, automatic)
	}
	return mappedSchema(s, func(y api.Type) api.Type {
		for i, g := range y.Tags {
			switch {
			case standsBeforeNothing(s, y, i), g.Way == api.TagPlain && way == api.WayExplicit:
				y.Tags[i].Way = api.TagExplicit
			case g.Way == api.TagPlain:
				y.Tags[i].Way = api.TagImplicit
			}
		}
		return y
	})
}

func automatic(y api.Type) api.Type {
	if y.Kind != api.TypeRecord && y.Kind != api.TypeSet && y.Kind != api.TypeUnion {
		return y
	}
	for _, f := range y.Fields {
		if len(f.Type.Tags) > 0 {
			return y
		}
	}
	for i := range y.Fields {
		y.Fields[i].Type.Tags = []api.Tag{context(i, api.TagPlain)}
	}
	return y
}

func isSettledBy(s api.Schema) bool {
	for _, n := range s {
		types, _ := typesWithin(n.Type, nil)
		for _, y := range types {
			for i, g := range y.Tags {
				if g.Way == api.TagPlain || g.Way == api.TagImplicit && standsBeforeNothing(s, y, i) {
					return false
				}
			}
		}
	}
	return true
}

// pairsBy returns the pairs of all tags that do not stand behind an implicit one.
func pairsBy(s api.Schema, y api.Type) []api.TagPair {
	l, end := allTags(s, y)
	if pair, e := tags.UniversalOf(end); e == api.OK {
		l = append(l, api.Tag{Class: pair.Class, Number: pair.Number})
	}
	var pairs []api.TagPair
	for i, g := range l {
		if i == 0 || l[i-1].Way != api.TagImplicit {
			pairs = append(pairs, api.TagPair{Class: g.Class, Number: g.Number})
		}
	}
	return pairs
}

// anyPair stands for anything, behind all pairs.
var anyPair = api.TagPair{Class: 9}

// beginsBy returns the pairs with which a type may begin, ascending, anyPair among them.
func beginsBy(s api.Schema, y api.Type) []api.TagPair {
	if pairs := pairsBy(s, y); len(pairs) > 0 {
		return pairs[:1]
	}
	_, end := allTags(s, y)
	if end.Kind == api.TypeOpen {
		return []api.TagPair{anyPair}
	}
	var l []api.TagPair
	for _, f := range end.Fields {
		l = append(l, beginsBy(s, f.Type)...)
	}
	slices.SortFunc(l, func(a, b api.TagPair) int { return cmp.Compare(a.Class*1000+a.Number, b.Class*1000+b.Number) })
	return slices.Compact(l)
}

// mustDiffer returns whether two fields of a type must be told apart: in a record, if all from the first one up to the second one may be absent.
func mustDiffer(y api.Type, first, second int) bool {
	if y.Kind != api.TypeRecord {
		return y.Kind == api.TypeSet || y.Kind == api.TypeUnion
	}
	for i := first; i < second; i++ {
		if y.Fields[i].Presence == api.FieldMust && i < y.Root {
			return false
		}
	}
	return true
}

// commonBy returns the least pair of two lists of pairs, if they clash.
func commonBy(a, b []api.TagPair) (api.TagPair, bool) {
	if slices.Contains(a, anyPair) {
		a, b = b, a
	}
	if slices.Contains(a, anyPair) {
		return api.TagPair{}, true
	}
	for _, pair := range a {
		if slices.Contains(b, pair) || slices.Contains(b, anyPair) {
			return pair, true
		}
	}
	return api.TagPair{}, false
}

func clashBy(s api.Schema) (api.TagClash, bool) {
	for n := range s {
		types, ways := typesWithin(s[n].Type, nil)
		for i, y := range types {
			for second := range y.Fields {
				for first := range second {
					pair, clashes := commonBy(beginsBy(s, y.Fields[first].Type), beginsBy(s, y.Fields[second].Type))
					if clashes && mustDiffer(y, first, second) && !hasEarlier(s, y, first) {
						return api.TagClash{Type: n, Way: ways[i], First: first, Second: second, Tag: pair}, true
					}
				}
			}
		}
	}
	return api.TagClash{}, false
}

// hasEarlier returns whether a field before one clashes with any field.
func hasEarlier(s api.Schema, y api.Type, field int) bool {
	for first := range field {
		for second := first + 1; second < len(y.Fields); second++ {
			if _, clashes := commonBy(beginsBy(s, y.Fields[first].Type), beginsBy(s, y.Fields[second].Type)); clashes && mustDiffer(y, first, second) {
				return true
			}
		}
	}
	return false
}

// orderBy takes the field with the least pair again and again.
func orderBy(s api.Schema, fields []api.Field) []int {
	key := func(i int) int {
		least := beginsBy(s, fields[i].Type)
		if slices.Contains(least, anyPair) {
			return anyPair.Class * 1000
		}
		return least[0].Class*1000 + least[0].Number
	}
	var order []int
	for len(order) < len(fields) {
		best := api.None
		for i := range fields {
			if !slices.Contains(order, i) && (best == api.None || key(i) < key(best)) {
				best = i
			}
		}
		order = append(order, best)
	}
	return order
}

// P3.2: settling, and what is settled, of random schemas; ErrLoop exactly of those that lead back to themselves.
func TestRandomSettling(t *testing.T) {
	m := maker{rand.New(rand.NewSource(1))}
	loops, settled := 0, 0
	for n := range 4000 {
		s := m.schema(1 + n%4)
		if slices.ContainsFunc(s, func(n api.Named) bool { return leadsFar(s, n.Type, len(s)+1) }) {
			loops++
			_, e := tags.IsSettled(s)
			wantResult(t, "a circle", 0, e, 0, api.ErrLoop)
			continue
		}
		is, e := tags.IsSettled(s)
		wantResult(t, "IsSettled", is, e, isSettledBy(s), api.OK)
		if is {
			settled++
		}
		for way := range api.Ways {
			l, e := tags.Settled(s, way)
			wantResult(t, "Settled", l, e, settledBy(s, way), api.OK)
		}
		for _, n := range s {
			y, e := tags.Automatic(n.Type)
			wantResult(t, "Automatic", y, e, mapped(n.Type, automatic), api.OK)
		}
	}
	if loops < 300 || settled < 300 || loops+settled > 3700 {
		t.Errorf("%d circles, %d settled ones", loops, settled)
	}
}

// P3.3, P3.4: pairs, beginnings, clashes and orders of random schemas.
func TestRandomSchemas(t *testing.T) {
	m := maker{rand.New(rand.NewSource(2))}
	clashes, orders := 0, 0
	for n := range 3000 {
		_, s := m.rightSchema(1+n%4, n%api.Ways)
		for i := range s {
			types, _ := typesWithin(s[i].Type, nil)
			y := types[m.Intn(len(types))]
			pairs, e := tags.PairsOf(s, y)
			wantResult(t, "PairsOf", pairs, e, pairsBy(s, y), api.OK)
			begins, anything, e := tags.BeginsWith(s, y)
			want := beginsBy(s, y)
			if slices.Contains(want, anyPair) != anything {
				t.Errorf("%+v: anything: %v", y, anything)
			}
			if anything {
				want = nil
			}
			wantResult(t, "BeginsWith", begins, e, want, api.OK)
			if _, end := allTags(s, y); end.Kind == api.TypeSet || end.Kind == api.TypeUnion {
				order, e := tags.CanonicalOrder(s, y)
				wantResult(t, "CanonicalOrder", order, e, orderBy(s, end.Fields), api.OK)
				orders++
			}
		}
		want, wantFound := clashBy(s)
		wantClash(t, s, "ClashIn", want, wantFound)
		if wantFound {
			clashes++
		}
	}
	if clashes < 1000 || clashes > 2500 || orders < 500 {
		t.Errorf("%d clashes, %d orders", clashes, orders)
	}
}
