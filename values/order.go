package values

import (
	"cmp"
	"slices"

	"examiner/api"
)

// compared returns -1, 0 or 1 as the first value comes before, is, or comes after the second one.
func compared(a, b api.Value) int {
	return cmp.Or(
		cmp.Compare(a.Kind, b.Kind),
		cmp.Compare(a.N, b.N),
		cmp.Compare(a.E, b.E),
		cmp.Compare(a.S, b.S),
		slices.Compare(a.Names, b.Names),
		slices.CompareFunc(a.Items, b.Items, compared),
	)
}

// sortBag puts the items of a bag, which are not in use elsewhere, into their order. Other values stay.
func sortBag(v api.Value) {
	if v.Kind == api.ValueBag {
		slices.SortFunc(v.Items, compared)
	}
}
