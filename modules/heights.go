package modules

import (
	"examiner/api"
	"examiner/limits"
)

// endless stands for no height. It is more than any height, which is at most the sum of how deep the types of a schema are.
const endless = 1 << 16

// heights are those of the types of a schema.
type heights struct {
	schema api.Schema
	known  map[string]int
}

// heightsIn finds the heights by supposing that no type has one, until nothing becomes less.
func heightsIn(s api.Schema) heights {
	h := heights{s, make(map[string]int)}
	for _, n := range s {
		h.known[n.Name] = endless
	}
	for isLess := true; isLess; {
		isLess = false
		for _, n := range s {
			if height := h.of(n.Type); height < h.known[n.Name] {
				h.known[n.Name] = height
				isLess = true
			}
		}
	}
	return h
}

// of returns the height of a type.
func (h heights) of(t api.Type) int {
	switch t.Kind {
	case api.TypeRef:
		return h.known[t.Name]
	case api.TypeRecord, api.TypeSet:
		greatest := 0
		for _, f := range needed(t) {
			greatest = max(greatest, h.of(f.Type))
		}
		return above(greatest)
	case api.TypeList, api.TypeBag:
		return h.ofList(t)
	case api.TypeUnion:
		_, least := h.leastField(t)
		return above(least)
	case api.TypeOid, api.TypeOpen:
		return 2
	}
	return 1
}

func (h heights) ofList(t api.Type) int {
	least, e := limits.LeastOf(t)
	switch {
	case e != api.OK:
		return endless
	case least.N == 0:
		return 1
	}
	return above(h.of(t.Of[0]))
}

// above returns the height of what has something of a height within it.
func above(height int) int { return min(height+1, endless) }

// needed returns the fields of a record without which there is no value of it.
func needed(t api.Type) []api.Field {
	var l []api.Field
	for _, f := range t.Fields[:t.Root] {
		if f.Presence == api.FieldMust {
			l = append(l, f)
		}
	}
	return l
}

// leastField returns the index and the height of the first field of a union that has the least height.
func (h heights) leastField(t api.Type) (index, least int) {
	least = endless
	for i, f := range t.Fields {
		if height := h.of(f.Type); height < least {
			index, least = i, height
		}
	}
	return index, least
}
