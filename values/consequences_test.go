package values_test

import (
	"slices"
	"testing"

	"examiner/api"
	"examiner/values"
)

// A sample is a value that fits a type of a schema and has a normal form.
type sample struct {
	*maker
	y         api.Type
	v, normal api.Value
}

// samples hands on random samples.
func samples(count int64, hand func(sample)) {
	for seed := range count {
		m := newMaker(seed + 10000)
		for range 4 {
			y := m.full()
			v, _ := m.value(y, 1+m.Intn(api.MaxDepth))
			if normal, e := values.Normal(m.s, y, v); e == api.OK {
				hand(sample{m, y, v, normal})
			}
		}
	}
}

// P5.6: the normal form fits, and is its own normal form.
func TestNormalAgain(t *testing.T) {
	changes := 0
	samples(1000, func(x sample) {
		place, e := values.Fits(x.s, x.y, x.normal)
		wantResult(t, "Fits of a normal form", place, e, []int{}, api.OK)
		again, e := values.Normal(x.s, x.y, x.normal)
		wantResult(t, "Normal of a normal form", again, e, x.normal, api.OK)
		is, e := values.IsNormal(x.s, x.y, x.normal)
		wantResult(t, "IsNormal of a normal form", is, e, true, api.OK)
		if !alike(x.v, x.normal) {
			changes++
		}
	})
	if changes < 100 {
		t.Errorf("only %d normal forms are not the value", changes)
	}
}

// The normal form is the same whatever the order of fields is, and whether fields of the root that have their defaults are written.
func TestNormalOfVariants(t *testing.T) {
	samples(1000, func(x sample) {
		if x.v.Kind != api.ValueRecord {
			return
		}
		variant := record("")
		root := x.y
		for _, n := range x.s {
			if x.y.Kind == api.TypeRef && n.Name == x.y.Name {
				root = n.Type
			}
		}
		for _, i := range x.Perm(len(x.v.Items)) {
			at := slices.IndexFunc(root.Fields, func(f api.Field) bool { return f.Name == x.v.Names[i] })
			if at >= 0 && at < root.Root && root.Fields[at].Presence == api.FieldDefault && alike(root.Fields[at].Default[0], x.v.Items[i]) && x.one(2) {
				continue
			}
			variant.Names = append(variant.Names, x.v.Names[i])
			variant.Items = append(variant.Items, x.v.Items[i])
		}
		normal, e := values.Normal(x.s, x.y, variant)
		wantResult(t, "Normal of a variant", normal, e, x.normal, api.OK)
	})
}

// P5.7: what FormatValue returns is read as the same value.
func TestBack(t *testing.T) {
	count := 0
	samples(1000, func(x sample) {
		for _, v := range []api.Value{x.v, x.normal} {
			text, e := values.FormatValue(x.s, x.y, v)
			if e != api.OK {
				t.Errorf("FormatValue %s: error %d", short(v), e)
				continue
			}
			wantRead(t, x.s, x.y, text, v)
			count++
		}
	})
	if count < 1000 {
		t.Errorf("only %d texts", count)
	}
}

// P5.8: changed by what is there a value stays; what is put somewhere is there, if no bag is on the way.
func TestChangedAndFound(t *testing.T) {
	samples(500, func(x sample) {
		for _, place := range places(x.v, nil) {
			at, e := values.ValueAt(x.v, place)
			wantResult(t, "error of ValueAt", 0, e, 0, api.OK)
			wantChanged(t, x.v, place, at, x.v, api.OK)
			by := x.spoilt(at)
			out, e := values.Changed(x.v, place, by)
			if e != api.OK || hasBag(x.v, place) {
				continue
			}
			wantValueAt(t, out, place, by, api.OK)
			other := places(x.v, nil)[x.Intn(len(places(x.v, nil)))]
			if n := min(len(place), len(other)); !slices.Equal(place[:n], other[:n]) { // neither is within the other one
				was, _ := values.ValueAt(x.v, other)
				wantValueAt(t, out, other, was, api.OK)
			}
		}
	})
}

// hasBag returns whether the way to a place leads through a bag.
func hasBag(v api.Value, place []int) bool {
	for i := range place {
		if outer, _ := values.ValueAt(v, place[:i]); outer.Kind == api.ValueBag {
			return true
		}
	}
	return false
}

// P5.8 and P5.2: the type at a place is one that the value there fits.
func TestTypesOfParts(t *testing.T) {
	samples(500, func(x sample) {
		for _, place := range places(x.v, nil) {
			y, e := values.TypeAt(x.s, x.y, x.v, place)
			wantResult(t, "error of TypeAt", 0, e, 0, api.OK)
			y.Tags = nil // there may be more than a type has by itself
			at, _ := values.ValueAt(x.v, place)
			fault, e := values.Fits(x.s, y, at)
			wantResult(t, "Fits at a place", fault, e, []int{}, api.OK)
		}
		_, e := values.TypeAt(x.s, x.y, x.v, []int{len(x.v.Items)})
		wantResult(t, "TypeAt behind the items", 0, e, 0, api.ErrMissing)
	})
}

// P5.9: the order is antisymmetric and transitive, and only the same values are equal.
func TestOrder(t *testing.T) {
	var all []api.Value
	samples(10, func(x sample) { all = append(all, x.v, x.normal, x.spoilt(x.v)) })
	all = append(all[:min(len(all), 60)], someValues()...)
	order := func(a, b api.Value) int {
		n, e := values.Compare(a, b)
		if e != api.OK || n < -1 || n > 1 {
			t.Errorf("Compare: %d, error %d", n, e)
		}
		return n
	}
	for _, a := range all {
		for _, b := range all {
			ab := order(a, b)
			if ab != -order(b, a) || (ab == 0) != alike(a, b) {
				t.Errorf("Compare %s, %s: %d", short(a), short(b), ab)
			}
			for _, c := range all {
				if ab <= 0 && order(b, c) <= 0 && order(a, c) > 0 {
					t.Errorf("%s, %s, %s do not ascend", short(a), short(b), short(c))
				}
			}
		}
	}
}
