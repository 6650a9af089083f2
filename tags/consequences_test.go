package tags_test

import (
	"math/rand"
	"slices"
	"testing"

	"examiner/api"
	"examiner/tags"
)

// P3.6: what is settled stays as it is.
func TestSettledAgain(t *testing.T) {
	m := maker{rand.New(rand.NewSource(3))}
	changed := 0
	for n := range 2000 {
		_, s := m.rightSchema(1+n%4, n%api.Ways)
		is, e := tags.IsSettled(s)
		wantResult(t, "IsSettled", is, e, true, api.OK)
		for _, way := range []int{api.WayExplicit, api.WayImplicit} {
			again, e := tags.Settled(s, way)
			wantResult(t, "settled again", again, e, s, api.OK)
		}
		again, e := tags.Settled(s, api.WayAutomatic)
		if e != api.OK {
			t.Errorf("settled again with automatic tags: error %d", e)
		}
		if !alike(again, s) {
			changed++
		}
	}
	if changed == 0 {
		t.Errorf("automatic tags change nothing")
	}
}

// P3.7: nothing clashes if all tags are automatic.
func TestAutomaticTagsDoNotClash(t *testing.T) {
	m := maker{rand.New(rand.NewSource(4))}
	otherwise := 0
	for n := range 3000 {
		s := mappedSchema(m.schema(2+n%3), untagged)
		settled, e := tags.Settled(s, api.WayAutomatic)
		if e == api.ErrLoop {
			continue
		}
		wantResult(t, "Settled", 0, e, 0, api.OK)
		wantClash(t, settled, "automatic tags", api.TagClash{}, false)
		if _, found, _ := tags.ClashIn(s); found {
			otherwise++
		}
	}
	if otherwise < 300 {
		t.Errorf("only %d schemas clash without tags", otherwise)
	}
}

// P3.8: an order has all fields, and without a clash their least pairs ascend.
func TestOrdersAscend(t *testing.T) {
	m := maker{rand.New(rand.NewSource(5))}
	ascending := 0
	for n := range 3000 {
		_, s := m.rightSchema(2+n%3, n%api.Ways)
		for i, name := range s {
			if name.Type.Kind != api.TypeSet && name.Type.Kind != api.TypeUnion {
				continue
			}
			order, e := tags.CanonicalOrder(s, ref(name.Name))
			sorted := slices.Sorted(slices.Values(order))
			for index := range sorted {
				if sorted[index] != index {
					t.Errorf("%v is no order", order)
				}
			}
			wantResult(t, "fields", len(order), e, len(name.Type.Fields), api.OK)
			if _, found, _ := tags.ClashIn(s); found {
				continue
			}
			ascending++
			wantAscending(t, s, s[i].Type.Fields, order)
		}
	}
	if ascending < 200 {
		t.Errorf("only %d orders without a clash", ascending)
	}
}

// wantAscending checks that fields begin with ascending pairs in an order, anything being the last.
func wantAscending(t *testing.T, s api.Schema, fields []api.Field, order []int) {
	t.Helper()
	last := api.TagPair{Class: -1}
	for at, index := range order {
		begins, anything, e := tags.BeginsWith(s, fields[index].Type)
		if e != api.OK || anything && at != len(order)-1 {
			t.Errorf("field %d may begin with anything: error %d", index, e)
		}
		if anything {
			continue
		}
		if p := begins[0]; p.Class < last.Class || p.Class == last.Class && p.Number <= last.Number {
			t.Errorf("%v behind %v", p, last)
		}
		last = begins[0]
	}
}

// Examples 3 and 4 of chapter 3, and its edge case of a record without fields.
func TestClashExamples(t *testing.T) {
	wantClash(t, settledOf(t, api.WayImplicit, "T ::= SEQUENCE {a INTEGER OPTIONAL, b INTEGER}"), "example 3", api.TagClash{Second: 1, Tag: pairsIn("U2")[0]}, true)
	wantClash(t, settledOf(t, api.WayImplicit, "T ::= SEQUENCE {a INTEGER, b INTEGER}"), "example 3", api.TagClash{}, false)
	wantClash(t, settledOf(t, api.WayImplicit, "T ::= SEQUENCE {}"), "a record without fields", api.TagClash{}, false)
	s := settledOf(t, api.WayAutomatic, "T ::= SEQUENCE {a INTEGER, ..., b NULL}")
	for i, want := range []string{"C0", "C1"} {
		pairs, e := tags.PairsOf(s, s[0].Type.Fields[i].Type)
		wantResult(t, "example 4", pairs, e, pairsIn(want), api.OK)
	}
}
