package tags

import (
	"iter"

	"examiner/api"
)

// within yields each type within a type: itself, then those within its fields, then those within Of. What is yielded may be changed.
func within(t *api.Type) iter.Seq[*api.Type] {
	return func(yield func(*api.Type) bool) { yieldWithin(t, yield) }
}

// yieldWithin returns whether further types are wanted.
func yieldWithin(t *api.Type, yield func(*api.Type) bool) bool {
	if !yield(t) {
		return false
	}
	for i := range t.Fields {
		if !yieldWithin(&t.Fields[i].Type, yield) {
			return false
		}
	}
	for i := range t.Of {
		if !yieldWithin(&t.Of[i], yield) {
			return false
		}
	}
	return true
}
