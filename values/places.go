package values

import (
	"slices"

	"examiner/api"
)

// found returns the value at a place, if there is one.
func found(v api.Value, place []int) (api.Value, bool) {
	for _, index := range place {
		if index < 0 || index >= len(v.Items) {
			return api.Value{}, false
		}
		v = v.Items[index]
	}
	return v, true
}

// changed returns a value in which the one at a place that is there is another one; bags around it are sorted again.
func changed(v api.Value, place []int, by api.Value) api.Value {
	if len(place) == 0 {
		return by
	}
	v.Items = slices.Clone(v.Items)
	at := &v.Items[place[0]]
	*at = changed(*at, place[1:], by)
	sortBag(v)
	return v
}
