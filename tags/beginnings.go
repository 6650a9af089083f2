package tags

import (
	"slices"

	"examiner/api"
)

// A beginning is what a type may begin with: some pairs, ascending, or anything. It is never nothing, because unions have fields, and do not lead back to themselves.
type beginning struct {
	pairs    []api.TagPair
	anything bool
}

// least returns the first pair, or one behind all others that stands for anything.
func (b beginning) least() api.TagPair {
	if b.anything {
		return api.TagPair{Class: api.Classes}
	}
	return b.pairs[0]
}

// beginnings says what the types in a settled schema may begin with. What named types may begin with is kept, because unions that refer to unions would be gone through far too often.
type beginnings struct {
	schema api.Schema
	known  map[string]beginning
}

func beginningsIn(s api.Schema) beginnings {
	return beginnings{schema: s, known: map[string]beginning{}}
}

func (b beginnings) of(t api.Type) beginning {
	if pairs := pairsOf(b.schema, t); len(pairs) > 0 {
		return beginning{pairs: pairs[:1]}
	}
	switch t.Kind {
	case api.TypeRef:
		return b.ofNamed(t.Name)
	case api.TypeUnion:
		return b.ofUnion(t)
	}
	return beginning{anything: true}
}

func (b beginnings) ofNamed(name string) beginning {
	if known, ok := b.known[name]; ok {
		return known
	}
	found := b.of(named(b.schema, name))
	b.known[name] = found
	return found
}

func (b beginnings) ofUnion(t api.Type) beginning {
	var pairs []api.TagPair
	for _, f := range b.ofFields(t) {
		if f.anything {
			return f
		}
		pairs = append(pairs, f.pairs...)
	}
	slices.SortFunc(pairs, comparePairs)
	return beginning{pairs: slices.Compact(pairs)}
}

func (b beginnings) ofFields(t api.Type) []beginning {
	var all []beginning
	for _, f := range t.Fields {
		all = append(all, b.of(f.Type))
	}
	return all
}

// order returns the indexes of the fields of a type in canonical order.
func (b beginnings) order(t api.Type) []int {
	all := b.ofFields(t)
	var indexes []int
	for i := range all {
		indexes = append(indexes, i)
	}
	slices.SortStableFunc(indexes, func(i, j int) int { return comparePairs(all[i].least(), all[j].least()) })
	return indexes
}
