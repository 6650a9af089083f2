package limits_test

import (
	"math/rand"
	"strings"
	"testing"

	"examiner/api"
	"examiner/limits"
)

// A maker makes constraints at random.
type maker struct{ *rand.Rand }

// tree returns a constraint, perhaps with a marker, whose nodes without operands of the same kind come from a function.
func (m maker) tree(leaf func() api.Limits) api.Limits {
	for {
		l := m.operand(m.Intn(4), leaf)
		switch m.Intn(5) {
		case 0:
			l = marker(l)
		case 1:
			l = marker(l, m.operand(m.Intn(3), leaf))
		}
		if len(l) <= api.MaxLimitNodes {
			return l
		}
	}
}

func (m maker) operand(depth int, leaf func() api.Limits) api.Limits {
	if depth == 0 {
		return leaf()
	}
	kind := []int{api.LimitUnion, api.LimitBoth, api.LimitWithout}[m.Intn(3)]
	first := m.operand(m.Intn(depth), leaf)
	return node(kind, first, m.operand(depth-1, leaf))
}

// span returns a range within another one, most often a small one.
func (m maker) span(low, high int) api.Limits {
	a := low + m.Intn(min(high-low+1, 7))
	if m.Intn(12) == 0 {
		a = high
	}
	return span(a, min(high, a+m.Intn(4)))
}

// word returns a string of at most so many bytes.
func (m maker) word(alphabet string, most int) string {
	out := ""
	for range m.Intn(most + 1) {
		out += string([]byte{alphabet[m.Intn(min(len(alphabet), 4))]})
	}
	return out
}

// limits returns a right constraint for a type.
func (m maker) limits(y api.Type) api.Limits {
	alphabet := alphabetIn(y)
	most := api.MaxString
	if y.Kind == api.TypeList || y.Kind == api.TypeBag {
		most = api.MaxItems
	}
	sized := func() api.Limits {
		return size(m.operand(m.Intn(3), func() api.Limits { return m.span(0, most) }))
	}
	return m.tree(func() api.Limits {
		switch {
		case y.Kind == api.TypeInt:
			return m.span(-3, 3)
		case most == api.MaxItems:
			return sized()
		case y.Kind == api.TypeChars && m.Intn(2) == 0:
			return from(m.operand(m.Intn(3), func() api.Limits { return m.characters(alphabet) }))
		case m.Intn(2) == 0:
			return sized()
		}
		return text(m.word(alphabet, 3))
	})
}

// characters returns some characters, most often of an alphabet.
func (m maker) characters(alphabet string) api.Limits {
	switch m.Intn(6) {
	case 0:
		return m.span(0, 127)
	case 1:
		return text("\x00~" + m.word(alphabet, 2))
	}
	return text(alphabet[:1+m.Intn(2)] + m.word(alphabet, 3))
}

// limitedTypes are types that may have a constraint.
func limitedTypes() []api.Type {
	return []api.Type{
		limited(api.TypeInt, nil), limited(api.TypeBits, nil), limited(api.TypeOctets, nil), limited(api.TypeList, nil), limited(api.TypeBag, nil),
		stringType(api.Numeric, nil), stringType(api.Printable, nil), stringType(api.Visible, nil), stringType(api.Ia5, nil),
	}
}

// typ returns one of them with a right constraint.
func (m maker) typ() api.Type {
	y := limitedTypes()[m.Intn(len(limitedTypes()))]
	y.Limits = m.limits(y)
	return y
}

// value returns a value of a type.
func (m maker) value(y api.Type) api.Value {
	switch y.Kind {
	case api.TypeInt:
		return number(m.Intn(15) - 5)
	case api.TypeList:
		return list(m.Intn(8))
	case api.TypeBag:
		return bag(m.Intn(8))
	case api.TypeBits:
		return bits(m.word(alphabetIn(y), 6))
	case api.TypeOctets:
		return octets(m.word(alphabetIn(y), 6))
	}
	return chars(m.word(alphabetIn(y), 4))
}

// P4.1: right constraints are right, and others wrong where they must be.
func TestRandomConstraints(t *testing.T) {
	m := maker{rand.New(rand.NewSource(1))}
	for range 5000 {
		y := m.typ()
		wantChecked(t, "a right constraint", y, len(y.Limits), api.OK)
	}
	met := map[api.Errno]int{}
	for range 20000 {
		y := m.typ()
		other := m.typ()
		if m.Intn(2) == 0 {
			y.Limits = node(api.LimitUnion+m.Intn(3), y.Limits, other.Limits)
		} else {
			y.Limits = other.Limits
		}
		if m.Intn(3) == 0 {
			y.Limits = node([]int{api.LimitSize, api.LimitFrom, api.LimitMarker}[m.Intn(3)], y.Limits)
		}
		if m.Intn(3) == 0 {
			y.Limits = m.withFault(y.Limits)
		}
		if len(y.Limits) > api.MaxLimitNodes {
			continue
		}
		want := firstFault(y)
		met[want.e]++
		wantChecked(t, "a constraint that may be wrong", y, want.index, want.e)
	}
	for _, e := range []api.Errno{api.OK, api.ErrState, api.ErrType, api.ErrRange, api.ErrLarge} {
		if met[e] < 100 {
			t.Errorf("error %d only %d times", e, met[e])
		}
	}
}

// withFault returns a constraint with a wrong range or a wrong string, if it has one at the place that is chosen.
func (m maker) withFault(l api.Limits) api.Limits {
	l = append(api.Limits{}, l...)
	n := &l[m.Intn(len(l))]
	switch n.Kind {
	case api.LimitRange:
		odd := []int{-1, 41, 128, 201, api.MaxInteger + 1, -api.MaxInteger - 1, 1 << 62, -1 << 63}
		n.Low, n.High = odd[m.Intn(8)], odd[m.Intn(8)]
	case api.LimitText:
		odd := []string{"\x80", "2", "~", "\x00", strings.Repeat("1", api.MaxString+1)}
		n.Text = []string{"", n.Text}[m.Intn(2)] + odd[m.Intn(5)]
	}
	return l
}

// P4.2, P4.3, P4.4: what is permitted and seen is what the definitions say, value by value.
func TestRandomMeanings(t *testing.T) {
	m := maker{rand.New(rand.NewSource(2))}
	counts := map[bool]int{}
	for range 6000 {
		y := m.typ()
		for range 5 {
			v := m.value(y)
			permitted := isSatisfied(y.Limits, v)
			counts[permitted]++
			wantPermitted(t, "a value", y, v, permitted, isSatisfied(inRoot(y.Limits), v), api.OK)
		}
		root := len(y.Limits) - 1
		isOpen := y.Limits[root].Kind == api.LimitMarker
		most := api.MaxString
		switch y.Kind {
		case api.TypeInt:
			wantNumbers(t, y, -20, 20)
			seen := spansWhere(-20, 20, func(n int) bool { return isSatisfied(inRoot(y.Limits), number(n)) })
			got, open, e := limits.RangeOf(y)
			wantBounds(t, "RangeOf", got, open, e, seen, isOpen)
			continue
		case api.TypeList, api.TypeBag:
			most = api.MaxItems
			wantNumbers(t, y, 0, most)
		}
		seen := spansWhere(0, most, func(n int) bool { return isSeen(y.Limits, root, api.LimitSize, n) })
		got, open, e := limits.SizeOf(y)
		wantBounds(t, "SizeOf", got, open, e, seen, isOpen)
		if y.Kind == api.TypeChars {
			wantCharacters(t, y)
		}
	}
	if counts[true] < 5000 || counts[false] < 5000 {
		t.Errorf("permitted and not: %v", counts)
	}
}

// wantNumbers checks what a type permits, and its witness, number by number.
func wantNumbers(t *testing.T, y api.Type, low, high int) {
	t.Helper()
	want := spansWhere(low, high, func(n int) bool { return isSatisfiedByNumber(y.Limits, len(y.Limits)-1, n) })
	got, e := limits.SpansOf(y)
	wantResult(t, "SpansOf", got, e, want, api.OK)
	least, e := limits.LeastOf(y)
	for distance := range high + 1 {
		for _, n := range []int{distance, -distance} {
			if isSatisfiedByNumber(y.Limits, len(y.Limits)-1, n) && n >= low {
				wantResult(t, "LeastOf", least, e, number(n), api.OK)
				return
			}
		}
	}
	wantResult(t, "LeastOf", least, e, api.Value{}, api.ErrNone)
}

// wantBounds checks an effective range or size.
func wantBounds(t *testing.T, what string, got api.Span, open bool, e api.Errno, seen []api.Span, isOpen bool) {
	t.Helper()
	if len(seen) == 0 {
		wantSeen(t, what, got, open, e, api.ErrNone)
		return
	}
	wantResult(t, what, got, e, api.Span{Low: seen[0].Low, High: seen[len(seen)-1].High}, api.OK)
	wantResult(t, what+" (open)", open, e, isOpen, api.OK)
}

func wantCharacters(t *testing.T, y api.Type) {
	t.Helper()
	want := spansWhere(0, 127, func(c int) bool {
		ofType, _ := limits.Permits(stringType(y.Name, nil), chars(bytes(c, c)))
		return ofType && isSeen(y.Limits, len(y.Limits)-1, api.LimitFrom, c)
	})
	got, e := limits.AlphabetOf(y)
	wantE := api.OK
	if len(want) == 0 {
		wantE = api.ErrNone
	}
	wantResult(t, "AlphabetOf", got, e, want, wantE)
}

// P4.5: the least string is the first one of all that are permitted.
func TestRandomStrings(t *testing.T) {
	m := maker{rand.New(rand.NewSource(3))}
	some := map[bool]int{}
	for n := range 4000 {
		y, most := limited(api.TypeBits, nil), 6
		if n%3 > 0 {
			y, most = stringType(api.Numeric, nil), 3
		}
		if n%40 == 0 {
			y, most = limited(api.TypeOctets, nil), 1
		}
		y.Limits = m.limits(y)
		isBounded := n%2 == 0 && len(y.Limits)+3 <= api.MaxLimitNodes && y.Limits[len(y.Limits)-1].Kind != api.LimitMarker
		if isBounded {
			y.Limits = both(y.Limits, size(span(0, most)))
		}
		v, e := limits.LeastOf(y)
		want, found := firstString(y, most)
		some[found]++
		switch {
		case found:
			wantResult(t, "the least string", v.S, e, want, api.OK)
		case isBounded:
			wantResult(t, "no string", v, e, api.Value{}, api.ErrNone)
		case e == api.OK && (len(v.S) <= most || !isSatisfied(y.Limits, v)):
			t.Errorf("%+v of %+v", v, y)
		}
	}
	if some[true] < 1000 || some[false] < 500 {
		t.Errorf("strings found: %v", some)
	}
}

// firstString returns the first string of at most some bytes that is permitted.
func firstString(y api.Type, most int) (string, bool) {
	words := []string{""}
	for range most + 1 {
		var longer []string
		for _, w := range words {
			if len(y.Limits) == 0 || isSatisfiedByString(y.Limits, len(y.Limits)-1, w) {
				return w, true
			}
			for _, c := range []byte(alphabetIn(y)) {
				longer = append(longer, w+string([]byte{c}))
			}
		}
		words = longer
	}
	return "", false
}
