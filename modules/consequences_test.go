package modules_test

import (
	"fmt"
	"slices"
	"testing"

	"examiner/api"
	"examiner/limits"
	"examiner/modules"
	"examiner/notation"
	"examiner/tags"
	"examiner/values"
)

// depthOf returns how many values are within one another in a value.
func depthOf(v api.Value) int {
	greatest := 0
	for _, item := range v.Items {
		greatest = max(greatest, depthOf(item))
	}
	return 1 + greatest
}

// P6.5: the least value fits its type; no value that fits has fewer values within one another, and it has as many as the height says.
func TestLeast(t *testing.T) {
	found, others := 0, 0
	for seed := range int64(3000) {
		m := newMaker(seed)
		s := m.schema()
		y := m.typ(3)
		least, e := modules.LeastValue(s, y)
		if e != api.OK {
			continue
		}
		found++
		what := fmt.Sprintf("least value %d", seed)
		at, e := values.Fits(s, y, least)
		wantResult(t, what, at, e, []int{}, api.OK)
		height, e := modules.HeightOf(s, y)
		wantResult(t, what, height, e, depthOf(least), api.OK)
		for range 5 {
			v, ok := m.value(s, y, 6)
			if _, e := values.Fits(s, y, v); !ok || e != api.OK {
				continue
			}
			others++
			if depthOf(v) < height {
				t.Errorf("%s: %s is less deep than %d", what, short(v), height)
			}
		}
	}
	if found < 1000 || others < 2000 {
		t.Errorf("only %d least values, %d others", found, others)
	}
}

// P6.5: what the least value has: of each type the least there is, the first one of several.
func TestLeastOfParts(t *testing.T) {
	for seed := range int64(3000) {
		m := newMaker(seed)
		s := m.schema()
		y := m.typ(3)
		if least, e := modules.LeastValue(s, y); e == api.OK {
			wantResult(t, fmt.Sprintf("least value %d", seed), least, e, leastByDefinition(t, s, y), api.OK)
		}
	}
}

// leastByDefinition returns the least value of a type that has one.
func leastByDefinition(t *testing.T, s api.Schema, y api.Type) api.Value {
	for y.Kind == api.TypeRef {
		y = s[slices.IndexFunc(s, func(n api.Named) bool { return n.Name == y.Name })].Type
	}
	v := api.Value{Kind: y.Kind}
	switch y.Kind {
	case api.TypeInt, api.TypeBits, api.TypeOctets, api.TypeChars:
		v, _ = limits.LeastOf(y)
	case api.TypeEnum:
		l := slices.Clone(y.Fields[:y.Root])
		slices.SortFunc(l, func(f, g api.Field) int { return f.Number - g.Number })
		v.S = l[0].Name
	case api.TypeOid:
		v.Items = []api.Value{number(0), number(0)}
	case api.TypeOpen:
		v = open("", api.Value{Kind: api.ValueOctets})
	case api.TypeRecord, api.TypeSet:
		v.Kind = api.ValueRecord
		for i, f := range y.Fields {
			if i < y.Root && f.Presence == api.FieldMust {
				v.Names = append(v.Names, f.Name)
				v.Items = append(v.Items, leastByDefinition(t, s, f.Type))
			}
		}
	case api.TypeList, api.TypeBag:
		v.Kind = api.ValueList + y.Kind - api.TypeList
		size, _ := limits.LeastOf(y)
		for range size.N {
			v.Items = append(v.Items, leastByDefinition(t, s, y.Of[0]))
		}
	case api.TypeUnion:
		best, least := 0, api.MaxDepth+1
		for i, f := range y.Fields {
			if height, e := modules.HeightOf(s, f.Type); e == api.OK && height < least {
				best, least = i, height
			}
		}
		v = union(y.Fields[best].Name, leastByDefinition(t, s, y.Fields[best].Type))
	}
	return v
}

// P6.6: the schema of a right program refers only to its own types. It is settled, has no constraints on references, and its defaults are in normal form.
func TestClosed(t *testing.T) {
	found, withDefaults := 0, 0
	for seed := range int64(2000) {
		l := newMaker(seed).program()
		for i := range l {
			s, e := modules.SchemaOf(l, i)
			if e != api.OK {
				continue
			}
			found++
			n, e := values.CheckSchema(s)
			wantResult(t, "CheckSchema", n, e, len(s), api.OK)
			is, e := tags.IsSettled(s)
			wantResult(t, "IsSettled", is, e, true, api.OK)
			for _, n := range s {
				for _, inner := range everyType(n.Type) {
					if inner.Kind == api.TypeRef && (len(inner.Limits) > 0 || !slices.ContainsFunc(s, func(n api.Named) bool { return n.Name == inner.Name })) {
						t.Errorf("schema %d of program %d has %s", i, seed, short(inner))
					}
					for _, f := range inner.Fields {
						if len(f.Default) == 0 {
							continue
						}
						withDefaults++
						is, e := values.IsNormal(s, f.Type, f.Default[0])
						wantResult(t, "IsNormal", is, e, true, api.OK)
					}
				}
			}
		}
	}
	if found < 1000 || withDefaults < 300 {
		t.Errorf("only %d schemas, %d defaults", found, withDefaults)
	}
}

// P6.7: a value fits a type exactly if it fits it unfolded.
func TestUnfoldedTypesHaveTheSameValues(t *testing.T) {
	fitting, others := 0, 0
	for seed := range int64(3000) {
		m := newMaker(seed)
		s := m.schema()
		y := m.typ(3)
		unfolded, e := modules.Unfolded(s, y)
		if e != api.OK {
			continue
		}
		for range 4 {
			v, _ := m.value(s, y, 1+m.Intn(6))
			if m.one(3) {
				v, _ = m.value(s, m.typ(2), 3)
			}
			at, e := values.Fits(s, y, v)
			unfoldedAt, unfoldedE := values.Fits(s, unfolded, v)
			wantResult(t, fmt.Sprintf("type %d", seed), unfoldedAt, unfoldedE, at, e)
			if e == api.OK {
				fitting++
			} else {
				others++
			}
		}
	}
	if fitting < 2000 || others < 1000 {
		t.Errorf("only %d fit, %d do not", fitting, others)
	}
}

// P6.8: with the modules in another order the schema of a module is the same.
func TestOrderOfModules(t *testing.T) {
	found := 0
	for seed := range int64(1000) {
		m := newMaker(seed)
		l := m.program()
		order := m.Perm(len(l))
		var turned []api.AsnModule
		for _, i := range order {
			turned = append(turned, l[i])
		}
		for i, from := range order {
			s, e := modules.SchemaOf(l, from)
			if e == api.ErrMissing || e == api.ErrScope || e == api.ErrLoop || e == api.ErrType {
				continue // the error of the program, which depends on the order
			}
			found++
			again, againE := modules.SchemaOf(turned, i)
			wantResult(t, fmt.Sprintf("program %d turned", seed), again, againE, s, e)
		}
	}
	if found < 500 {
		t.Errorf("only %d schemas", found)
	}
}

// What CheckRight accepts has what a right schema must have.
func TestRightRandomSchemas(t *testing.T) {
	right, faults := 0, map[api.Errno]int{}
	for seed := range int64(1500) {
		s := newMaker(seed).schema()
		i, e := modules.CheckRight(s)
		index, slowE := slowRight(s)
		wantResult(t, fmt.Sprintf("schema %d", seed), i, e, index, slowE)
		faults[e]++
		if e == api.OK {
			right++
		}
	}
	for _, e := range []api.Errno{api.ErrLoop, api.ErrNone, api.ErrTag, api.ErrType, api.ErrBound, api.ErrCanonical} {
		if faults[e] < 10 {
			t.Errorf("error %d comes only %d times", e, faults[e])
		}
	}
	if right < 100 {
		t.Errorf("only %d right schemas", right)
	}
}

// eachDefault returns what tells the first error of the defaults of a type's own fields.
func eachDefault(errorOf func(api.Type, api.Value) api.Errno) func(api.Type) api.Errno {
	return func(y api.Type) api.Errno {
		for _, f := range y.Fields {
			for _, v := range f.Default {
				if e := errorOf(f.Type, v); e != api.OK {
					return e
				}
			}
		}
		return api.OK
	}
}

// slowRight is CheckRight.
func slowRight(s api.Schema) (int, api.Errno) {
	if i, e := values.CheckSchema(s); e != api.OK {
		return i, e
	}
	is, e := tags.IsSettled(s)
	switch {
	case e != api.OK:
		return 0, e
	case !is:
		return 0, api.ErrState
	}
	perType := []func(api.Type) api.Errno{
		func(y api.Type) api.Errno {
			_, e := notation.Resolved(s, y)
			return e
		},
		func(y api.Type) api.Errno {
			if _, e := limits.LeastOf(y); e == api.ErrNone {
				return e
			}
			return api.OK
		},
		nil,
		nil,
		eachDefault(func(y api.Type, v api.Value) api.Errno {
			_, e := values.Fits(s, y, v)
			return e
		}),
		eachDefault(func(y api.Type, v api.Value) api.Errno {
			if is, _ := values.IsNormal(s, y, v); !is {
				return api.ErrCanonical
			}
			return api.OK
		}),
	}
	for step, check := range perType {
		clash, clashes, _ := tags.ClashIn(s)
		for i, n := range s {
			if step == 2 && (slowHeight(s, n.Type) == noHeight || slowHeight(s, n.Type) > api.MaxDepth) {
				return i, api.ErrLoop
			}
			if step == 3 && clashes && clash.Type == i {
				return i, api.ErrTag
			}
			for _, inner := range append([]api.Type{ref(n.Name)}, everyType(n.Type)...) {
				if check == nil {
					continue
				}
				if e := check(inner); e != api.OK {
					return i, e
				}
			}
		}
	}
	return len(s), api.OK
}
