package objects

import (
	"iter"

	"examiner/api"
)

// inOrder yields each type within a type after those within it: those within its fields, then those within Of. What is yielded may be changed.
func inOrder(t *api.Type) iter.Seq[*api.Type] {
	return func(yield func(*api.Type) bool) { yieldInOrder(t, yield) }
}

// yieldInOrder returns whether further types are wanted.
func yieldInOrder(t *api.Type, yield func(*api.Type) bool) bool {
	for i := range t.Fields {
		if !yieldInOrder(&t.Fields[i].Type, yield) {
			return false
		}
	}
	for i := range t.Of {
		if !yieldInOrder(&t.Of[i], yield) {
			return false
		}
	}
	return yield(t)
}

// typesOf returns the types that an item has.
func typesOf(a api.Assigned) []api.Type {
	switch a.Kind {
	case api.ItemType, api.ItemValue:
		return []api.Type{a.Type}
	case api.ItemClass:
		var l []api.Type
		for _, f := range a.Class {
			l = append(l, f.Fixed...)
		}
		return l
	case api.ItemObject:
		var l []api.Type
		for _, g := range a.Settings {
			l = append(l, g.Type...)
		}
		return l
	}
	return nil
}

func isRecord(t api.Type) bool { return t.Kind == api.TypeRecord || t.Kind == api.TypeSet }

// isParameterUse returns whether a type is a reference with actual parameters.
func isParameterUse(t api.Type) bool { return t.Kind == api.TypeRef && len(t.Fields) > 0 }

// isClassUse returns whether a type is a field of a class.
func isClassUse(t api.Type) bool { return t.Kind == api.TypeOpen && len(t.Fields) > 0 }
