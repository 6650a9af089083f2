package copies_test

import (
	"reflect"
	"testing"

	"examiner/api"
	"examiner/copies"
)

// large returns a type all of whose parts are there.
func large() api.Type {
	value := api.Value{Kind: api.ValueRecord, Names: []string{"a"}, Items: []api.Value{{Kind: api.ValueList, Items: []api.Value{{N: 1}}}}}
	limits := api.Limits{{Low: 1, High: 2}, {Kind: api.LimitSize, Args: []int{0}}}
	list := api.Type{Kind: api.TypeList, Of: []api.Type{{Kind: api.TypeRef, Name: "T", Tags: []api.Tag{{Class: 1, Number: 2, Way: 1}}}}, Limits: limits}
	return api.Type{Kind: api.TypeSet, Tags: []api.Tag{{Class: 2}}, Fields: []api.Field{{Name: "x", Type: list, Presence: api.FieldDefault, Default: []api.Value{value}}, {Name: "y", Group: 1}}, Open: true, Root: 1}
}

// whole returns a module all of whose parts are there.
func whole() api.AsnModule {
	t := large()
	a := api.Assigned{
		Params:   []string{"X"},
		Type:     t,
		Value:    large().Fields[0].Default[0],
		Class:    []api.ClassField{{Name: "id", Fixed: []api.Type{large()}}, {Name: "T"}},
		Settings: []api.Setting{{Name: "id", Value: large().Fields[0].Default}, {Name: "T", Type: []api.Type{large()}}},
		Names:    []string{"o", "p"},
	}
	imports := []api.Import{{Module: "N", Names: []string{"A", "B"}}, {Module: "O", Names: []string{"C"}}}
	return api.AsnModule{Name: "M", Way: 1, Exports: []string{"D", "E"}, Imports: imports, Items: []api.Assigned{a, {Kind: 2, Of: "F", Open: true}}}
}

// poison overwrites all that slices hold.
func poison(v reflect.Value) {
	switch v.Kind() {
	case reflect.Slice:
		for i := range v.Len() {
			poison(v.Index(i))
			v.Index(i).SetZero()
		}
	case reflect.Struct:
		for i := range v.NumField() {
			poison(v.Field(i))
		}
	}
}

func wantCopy[T any](t *testing.T, original, copied, want T) {
	t.Helper()
	poison(reflect.ValueOf(original))
	if !reflect.DeepEqual(copied, want) {
		t.Errorf("%+v, want %+v", copied, want)
	}
}

// R3: what is done to the original does not matter to the copy.
func TestCopies(t *testing.T) {
	y := large()
	wantCopy(t, y, copies.OfType(y), large())
	value := large().Fields[0].Default[0]
	wantCopy(t, value, copies.OfValue(value), large().Fields[0].Default[0])
	values := large().Fields[0].Default
	wantCopy(t, values, copies.OfValues(values), large().Fields[0].Default)
	types := large().Fields[0].Type.Of
	wantCopy(t, types, copies.OfTypes(types), large().Fields[0].Type.Of)
	m := whole()
	wantCopy(t, m, copies.OfModule(m), whole())
	item := whole().Items[0]
	wantCopy(t, item, copies.OfItem(item), whole().Items[0])
	limits := large().Fields[0].Type.Limits
	wantCopy(t, limits, copies.OfLimits(limits), large().Fields[0].Type.Limits)
	wantCopy(t, api.Type{}, copies.OfType(api.Type{}), api.Type{})
	wantCopy(t, api.AsnModule{}, copies.OfModule(api.AsnModule{}), api.AsnModule{})
}
