package objects

import (
	"slices"
	"strconv"
	"strings"

	"examiner/api"
	"examiner/copies"
	"examiner/notation"
)

// maxTags is how many tags a type may have.
const maxTags = 3

// An expander expands a module, behind whose items it adds others. It knows the names of the instances by what they are made from, and how many there are of each parameterized type.
type expander struct {
	api.AsnModule
	instances map[string]string
	counts    map[string]int
}

// expandedModule returns a right module expanded.
func expandedModule(m api.AsnModule) (api.AsnModule, api.Errno) {
	x := expander{copies.OfModule(m), make(map[string]string), make(map[string]int)}
	for i := 0; i < len(x.Items); i++ { // those that are added, too
		if e := x.expand(i); e != api.OK {
			return api.AsnModule{}, e
		}
	}
	x.leaveOut()
	if len(x.Items) > api.MaxAssigned {
		return api.AsnModule{}, api.ErrLarge
	}
	return x.AsnModule, api.OK
}

// expand puts into an item what it uses, or adds the types of an object.
func (x *expander) expand(item int) api.Errno {
	a := x.Items[item]
	switch {
	case a.Kind == api.ItemObject:
		return x.addTypes(a)
	case isPart(a):
		if e := x.goThrough(&a.Type); e != api.OK {
			return e
		}
		x.Items[item] = a
	}
	return api.OK
}

// addTypes adds the types of an object.
func (x *expander) addTypes(object api.Assigned) api.Errno {
	for _, g := range object.Settings {
		for _, t := range g.Type {
			if e := x.add(typeName(g.Name, object.Name), copies.OfType(t)); e != api.OK {
				return e
			}
		}
	}
	return api.OK
}

// typeName returns the name of the type that an object has in a field.
func typeName(field, object string) string { return field + "-" + object }

// add adds a type.
func (x *expander) add(name string, t api.Type) api.Errno {
	switch {
	case len(name) > api.MaxName:
		return api.ErrName
	case hasItem(x.AsnModule, name) || imports(x.AsnModule, name):
		return api.ErrExists
	}
	x.Items = append(x.Items, api.Assigned{Kind: api.ItemType, Name: name, Type: t})
	return api.OK
}

// leaveOut leaves out all items that no program has.
func (x *expander) leaveOut() {
	var kept []api.Assigned
	isLeftOut := make(map[string]bool)
	for _, a := range x.Items {
		if isPart(a) {
			kept = append(kept, a)
		} else {
			isLeftOut[a.Name] = true
		}
	}
	x.Items = kept
	x.Exports = slices.DeleteFunc(x.Exports, func(name string) bool { return isLeftOut[name] })
}

// goThrough replaces each use within a type, after those within it.
func (x *expander) goThrough(t *api.Type) api.Errno {
	for inner := range inOrder(t) {
		e := api.OK
		switch {
		case isParameterUse(*inner):
			e = x.useInstance(inner)
		case isClassUse(*inner):
			e = x.useField(inner)
		}
		if e != api.OK {
			return e
		}
	}
	return api.OK
}

// useInstance makes a use of a parameterized type a reference to its instance.
func (x *expander) useInstance(t *api.Type) api.Errno {
	actual, key, e := actualTypes(*t)
	if e != api.OK {
		return e
	}
	if _, isKnown := x.instances[key]; !isKnown {
		if e := x.addInstance(t.Name, key, actual); e != api.OK {
			return e
		}
	}
	t.Name, t.Fields = x.instances[key], nil
	return api.OK
}

// actualTypes returns the actual parameters of a use, and what tells it from those that have another instance.
func actualTypes(t api.Type) ([]api.Type, string, api.Errno) {
	var actual []api.Type
	parts := []string{t.Name}
	for _, f := range t.Fields {
		text, e := notation.FormatType(f.Type)
		if e != api.OK {
			return nil, "", e
		}
		actual = append(actual, f.Type)
		parts = append(parts, text)
	}
	return actual, strings.Join(parts, "\n"), api.OK // no text of a type has a line feed
}

// addInstance adds an instance of a parameterized type.
func (x *expander) addInstance(name, key string, actual []api.Type) api.Errno {
	if len(x.instances) >= api.MaxTypes {
		return api.ErrLoop
	}
	parameterized, _ := itemOf(x.AsnModule, api.ItemType, name)
	t, e := Substituted(parameterized.Type, parameterized.Params, actual)
	if e != api.OK {
		return e
	}
	x.counts[name]++
	instance := name + "-" + strconv.Itoa(x.counts[name])
	x.instances[key] = instance
	return x.add(instance, t)
}

// useField makes a use of a class the type of its field, or an open type.
func (x *expander) useField(t *api.Type) api.Errno {
	u := classUseOf(*t)
	class, _ := itemOf(x.AsnModule, api.ItemClass, u.class)
	f := class.Class[fieldOf(class, u.field)]
	if len(f.Fixed) == 0 {
		t.Name, t.Fields = "", nil
		return api.OK
	}
	fixed := copies.OfType(f.Fixed[0])
	if e := x.goThrough(&fixed); e != api.OK {
		return e
	}
	if fixed.Kind == api.TypeInt {
		set, _ := itemOf(x.AsnModule, api.ItemObjects, u.set)
		only, e := onlyValues(valuesIn(x.AsnModule, set, u.field), set.Open)
		if e != api.OK {
			return e
		}
		fixed.Limits = only
	}
	fixed.Tags = slices.Concat(t.Tags, fixed.Tags)
	if len(fixed.Tags) > maxTags {
		return api.ErrLarge
	}
	*t = fixed
	return api.OK
}

// onlyValues returns the constraint that permits some whole numbers alone, for others to be added if it is open: none without values.
func onlyValues(l []api.Value, isOpen bool) (api.Limits, api.Errno) {
	var only api.Limits
	for _, v := range l {
		if v.Kind != api.ValueInt {
			return nil, api.ErrType
		}
		only = append(only, api.Limit{Kind: api.LimitRange, Low: v.N, High: v.N})
		if at := len(only) - 1; at > 0 {
			only = append(only, api.Limit{Kind: api.LimitUnion, Args: []int{at - 1, at}})
		}
	}
	if isOpen && len(only) > 0 {
		only = append(only, api.Limit{Kind: api.LimitMarker, Args: []int{len(only) - 1}})
	}
	if len(only) > api.MaxLimitNodes {
		return nil, api.ErrLarge
	}
	return only, api.OK
}
