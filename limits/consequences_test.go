package limits_test

import (
	"math/rand"
	"testing"

	"examiner/api"
	"examiner/limits"
)

// P4.6: sets of numbers are combined as their constraints are.
func TestSetsOfConstraints(t *testing.T) {
	m := maker{rand.New(rand.NewSource(4))}
	kinds := []int{api.LimitUnion, api.LimitBoth, api.LimitWithout}
	met := 0
	for range 4000 {
		a, b := limited(api.TypeInt, nil), limited(api.TypeInt, nil)
		a.Limits, b.Limits = inRoot(m.limits(a)), inRoot(m.limits(b))
		if len(a.Limits)+len(b.Limits) >= api.MaxLimitNodes {
			continue
		}
		met++
		first, _ := limits.SpansOf(a)
		second, _ := limits.SpansOf(b)
		for op, kind := range kinds {
			want, wantE := limits.Combined(op, first, second)
			got, e := limits.SpansOf(limited(api.TypeInt, node(kind, a.Limits, b.Limits)))
			wantResult(t, "SpansOf a node of two", got, e, want, wantE)
			count, e := limits.CheckSpans(got)
			wantResult(t, "CheckSpans", count, e, len(got), api.OK)
		}
		outside, e := limits.OutsideOf(a, b)
		difference, _ := limits.LeastOf(limited(api.TypeInt, without(a.Limits, b.Limits)))
		wantE := api.OK
		if rest, _ := limits.Combined(api.SpanWithout, first, second); len(rest) == 0 {
			wantE = api.ErrNone
		}
		wantResult(t, "OutsideOf", outside, e, difference.N, wantE)
	}
	if met < 1000 {
		t.Errorf("only %d constraints", met)
	}
}

// P4.3, P4.6: what Combined returns has the numbers that it must have.
func TestSetsOfNumbers(t *testing.T) {
	m := maker{rand.New(rand.NewSource(5))}
	for range 3000 {
		a, b := m.spans(), m.spans()
		for op := range api.SpanOps {
			want := spansWhere(-30, 130, func(n int) bool {
				inA, inB := isAmong(a, n), isAmong(b, n)
				return [api.SpanOps]bool{inA || inB, inA && inB, inA && !inB}[op]
			})
			wantE := api.OK
			if len(want) > api.MaxItems {
				want, wantE = nil, api.ErrLarge
			}
			got, e := limits.Combined(op, a, b)
			wantResult(t, "Combined", got, e, want, wantE)
		}
	}
}

// spans returns at most MaxItems spans from -20 to 120.
func (m maker) spans() []api.Span {
	dense := 1 + m.Intn(9)
	l := spansWhere(-20, 120, func(int) bool { return m.Intn(10) < dense })
	return l[:min(len(l), api.MaxItems)]
}

func isAmong(l []api.Span, n int) bool {
	for _, s := range l {
		if s.Low <= n && n <= s.High {
			return true
		}
	}
	return false
}

// P4.7: a least value is permitted.
func TestLeastValuesArePermitted(t *testing.T) {
	m := maker{rand.New(rand.NewSource(6))}
	for range 4000 {
		y := m.typ()
		v, e := limits.LeastOf(y)
		if e == api.ErrNone {
			for range 10 {
				wantPermitted(t, "a value where there is none", y, m.value(y), false, false, api.OK)
			}
			continue
		}
		wantResult(t, "LeastOf", 0, e, 0, api.OK)
		switch y.Kind {
		case api.TypeList:
			v = list(v.N)
		case api.TypeBag:
			v = bag(v.N)
		}
		is, e := limits.Permits(y, v)
		wantResult(t, "a least value", is, e, true, api.OK)
	}
}

// P4.8: what is in the root is seen.
func TestRootsAreSeen(t *testing.T) {
	m := maker{rand.New(rand.NewSource(7))}
	met := 0
	for range 20000 {
		y := m.typ()
		v := m.value(y)
		if is, _ := limits.InRoot(y, v); !is {
			continue
		}
		met++
		if y.Kind == api.TypeInt {
			s, _, e := limits.RangeOf(y)
			wantResult(t, "a number in the root", isAmong([]api.Span{s}, v.N), e, true, api.OK)
			continue
		}
		s, _, e := limits.SizeOf(y)
		wantResult(t, "a size in the root", isAmong([]api.Span{s}, max(len(v.S), len(v.Items))), e, true, api.OK)
		if y.Kind != api.TypeChars || v.S == "" {
			continue
		}
		l, e := limits.AlphabetOf(y)
		for _, c := range []byte(v.S) {
			wantResult(t, "a character in the root", isAmong(l, int(c)), e, true, api.OK)
		}
	}
	if met < 3000 {
		t.Errorf("only %d values in the root", met)
	}
}
