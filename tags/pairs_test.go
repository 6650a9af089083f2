package tags_test

import (
	"fmt"
	"testing"

	"examiner/api"
	"examiner/tags"
)

const pairTypes = `
	A ::= ANY
	B ::= [10] EXPLICIT A
	C ::= CHOICE {a NULL, b [0] EXPLICIT BOOLEAN}
	D ::= C
	E ::= [11] EXPLICIT D
	F ::= [12] IMPLICIT [13] IMPLICIT E
	G ::= [14] EXPLICIT INTEGER
	H ::= [15] IMPLICIT G
	I ::= CHOICE {a G, ..., b CHOICE {c D, ..., d REAL}, [[e [APPLICATION 0] IMPLICIT G]]}
	J ::= SET OF G
	K ::= CHOICE {a NULL, b A}
	L ::= CHOICE {a [PRIVATE 1] EXPLICIT A, b [2] EXPLICIT NULL, c [APPLICATION 3] EXPLICIT NULL, d NULL, e [1] EXPLICIT NULL, f BOOLEAN, g NULL}
	M ::= CHOICE {a I, b I, ..., c J}`

// P3.3: the pairs of types, and what they may begin with ("*": anything).
func TestPairs(t *testing.T) {
	s := schemaOf(t, pairTypes)
	for _, x := range []struct{ text, pairs, begins string }{
		{"INTEGER", "U2", "U2"},
		{"IA5String", "U22", "U22"},
		{"SEQUENCE {a [1] EXPLICIT NULL}", "U16", "U16"},
		{"SET OF [1] EXPLICIT NULL", "U17", "U17"},
		{"[5] EXPLICIT INTEGER", "C5 U2", "C5"},
		{"[5] IMPLICIT INTEGER", "C5", "C5"},
		{"[1] EXPLICIT [2] IMPLICIT INTEGER", "C1 C2", "C1"},
		{"[1] IMPLICIT [2] EXPLICIT INTEGER", "C1 U2", "C1"},
		{"[1] IMPLICIT [2] IMPLICIT INTEGER", "C1", "C1"},
		{"[1] EXPLICIT [2] EXPLICIT INTEGER", "C1 C2 U2", "C1"},
		{"[1] EXPLICIT [2] IMPLICIT [3] EXPLICIT INTEGER", "C1 C2 U2", "C1"},
		{"[1] IMPLICIT [2] EXPLICIT [3] IMPLICIT INTEGER", "C1 C3", "C1"},
		{"[APPLICATION 0] EXPLICIT [PRIVATE 100000] EXPLICIT NULL", "A0 P100000 U5", "A0"},
		{"ANY", "", "*"},
		{"[1] EXPLICIT ANY", "C1", "C1"},
		{"[1] IMPLICIT [2] EXPLICIT ANY", "C1", "C1"},
		{"[1] EXPLICIT [2] EXPLICIT ANY", "C1 C2", "C1"},
		{"CHOICE {a NULL}", "", "U5"},
		{"[1] EXPLICIT CHOICE {a NULL}", "C1", "C1"},
		{"A", "", "*"},
		{"[1] EXPLICIT A", "C1", "C1"},
		{"B", "C10", "C10"},
		{"[1] IMPLICIT B", "C1", "C1"},
		{"[1] EXPLICIT B", "C1 C10", "C1"},
		{"D", "", "U5 C0"},
		{"[1] EXPLICIT D", "C1", "C1"},
		{"E", "C11", "C11"},
		{"F", "C12", "C12"},
		{"[1] EXPLICIT F", "C1 C12", "C1"},
		{"H", "C15 U2", "C15"},
		{"[1] IMPLICIT H", "C1 U2", "C1"},
		{"[1] IMPLICIT [2] EXPLICIT H", "C1 C15 U2", "C1"},
		{"I", "", "U5 U9 A0 C0 C14"},
		{"CHOICE {a J, b I, c SEQUENCE {d A}}", "", "U5 U9 U16 U17 A0 C0 C14"},
		{"K", "", "*"},
		{"CHOICE {a NULL, b CHOICE {c BOOLEAN, ..., d K}}", "", "*"},
		{"CHOICE {a NULL, b [1] EXPLICIT K}", "", "U5 C1"},
		{"L", "", "U1 U5 A3 C1 C2 P1"},
		{"M", "", "U5 U9 U17 A0 C0 C14"},
	} {
		y := typeOf(t, x.text)
		pairs, e := tags.PairsOf(s, y)
		wantResult(t, "PairsOf "+x.text, pairs, e, pairsIn(x.pairs), api.OK)
		begins, anything, e := tags.BeginsWith(s, y)
		wantAnything := x.begins == "*"
		want := pairsIn(x.begins)
		if wantAnything {
			want = nil
		}
		wantResult(t, "BeginsWith "+x.text, begins, e, want, api.OK)
		wantResult(t, "anything of "+x.text, anything, e, wantAnything, api.OK)
	}
}

// The examples 1 and 2 of chapter 3.
func TestPairExamples(t *testing.T) {
	for way, want := range []string{api.WayExplicit: "C5 U2", api.WayImplicit: "C5"} {
		s := settledOf(t, way, "T ::= [5] INTEGER")
		pairs, e := tags.PairsOf(s, ref("T"))
		wantResult(t, "example 1", pairs, e, pairsIn(want), api.OK)
	}
	s := settledOf(t, api.WayImplicit, "T ::= CHOICE {a INTEGER, b CHOICE {c BOOLEAN, d [0] NULL}}")
	begins, anything, e := tags.BeginsWith(s, ref("T"))
	wantResult(t, "example 2", begins, e, pairsIn("U1 U2 C0"), api.OK)
	wantResult(t, "example 2", anything, e, false, api.OK)
}

// P3.3: a type may have more pairs than chapter 2 lets it have tags, as references are not resolved.
func TestManyPairs(t *testing.T) {
	link := func(next api.Type) api.Type {
		return tagged(next, context(1, api.TagExplicit), context(2, api.TagExplicit), context(3, api.TagExplicit))
	}
	s := chain(api.MaxTypes, link, kind(api.TypeNull))
	var want []api.TagPair
	for range api.MaxTypes - 1 {
		want = append(want, pairsIn("C1 C2 C3")...)
	}
	pairs, e := tags.PairsOf(s, ref("T00"))
	wantResult(t, "a long chain", pairs, e, append(want, pairsIn("U5")...), api.OK)
	begins, _, e := tags.BeginsWith(s, ref("T00"))
	wantResult(t, "a long chain", begins, e, pairsIn("C1"), api.OK)
}

// alternatives returns a union of so many types with context tags from a number on.
func alternatives(from, n int) api.Type {
	var l []api.Type
	for i := range n {
		l = append(l, tagged(kind(api.TypeNull), context(from+i, api.TagExplicit)))
	}
	return fields(api.TypeUnion, l...)
}

// P3.3: at most MaxTagPairs pairs, each counted once, unless it may begin with anything.
func TestMostBeginnings(t *testing.T) {
	var s api.Schema
	for i := range 5 {
		s = append(s, api.Named{Name: fmt.Sprintf("T%d", i), Type: alternatives(12*i, 12)})
	}
	sixty := fields(api.TypeUnion, ref("T0"), ref("T4"), ref("T1"), ref("T3"), ref("T2"), ref("T1"))
	begins, anything, e := tags.BeginsWith(s, sixty)
	var want []api.TagPair
	for i := range api.MaxTagPairs {
		want = append(want, api.TagPair{Class: api.ClassContext, Number: i})
	}
	wantResult(t, "60 pairs", begins, e, want, api.OK)
	wantResult(t, "60 pairs", anything, e, false, api.OK)
	more := fields(api.TypeUnion, sixty, kind(api.TypeNull))
	begins, anything, e = tags.BeginsWith(s, more)
	wantFault(t, "61 pairs", outcome{[]any{begins, anything}, e}, api.ErrLarge)
	begins, anything, e = tags.BeginsWith(s, fields(api.TypeUnion, more, kind(api.TypeOpen)))
	wantResult(t, "61 pairs, or anything", begins, e, []api.TagPair{}, api.OK)
	wantResult(t, "61 pairs, or anything", anything, e, true, api.OK)
	begins, _, e = tags.BeginsWith(s, tagged(more, context(3, api.TagExplicit)))
	wantResult(t, "61 pairs behind a tag", begins, e, pairsIn("C3"), api.OK)
	pairs, e := tags.PairsOf(s, more)
	wantResult(t, "61 pairs", pairs, e, []api.TagPair{}, api.OK)
	order, e := tags.CanonicalOrder(s, more)
	wantResult(t, "61 pairs", order, e, []int{1, 0}, api.OK)
	c, found, e := tags.ClashIn(append(s, api.Named{Name: "U", Type: fields(api.TypeSet, more, kind(api.TypeBool))}))
	wantResult(t, "61 pairs that clash", c, e, api.TagClash{Type: 5, Way: []int{0, 0}, First: 2, Second: 5, Tag: pairsIn("C12")[0]}, api.OK)
	wantResult(t, "61 pairs that clash", found, e, true, api.OK)
}

// R2: unions of unions, with more ways through them than there is time for.
func TestManyWays(t *testing.T) {
	link := func(next api.Type) api.Type {
		var l []api.Type
		for range api.MaxFields {
			l = append(l, next)
		}
		return fields(api.TypeUnion, l...)
	}
	s := chain(api.MaxTypes, link, kind(api.TypeNull))
	begins, _, e := tags.BeginsWith(s, ref("T00"))
	wantResult(t, "many ways", begins, e, pairsIn("U5"), api.OK)
	c, _, e := tags.ClashIn(s)
	wantResult(t, "many ways", c, e, api.TagClash{Second: 1, Tag: pairsIn("U5")[0]}, api.OK)
	order, e := tags.CanonicalOrder(s, ref("T00"))
	wantResult(t, "many ways", order, e, []int{0, 1, 2, 3, 4, 5, 6, 7, 8, 9, 10, 11, 12, 13, 14, 15}, api.OK)
}
