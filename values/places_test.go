package values_test

import (
	"fmt"
	"testing"

	"examiner/api"
	"examiner/values"
)

func wantCompared(t *testing.T, a, b api.Value, want int, e api.Errno) {
	t.Helper()
	got, gotE := values.Compare(a, b)
	wantResult(t, fmt.Sprintf("Compare %+v, %+v", a, b), got, gotE, want, e)
}

// P5.4: values are compared by Kind, N, E, S, Names, then Items; a beginning is less.
func TestCompare(t *testing.T) {
	null, one := api.Value{}, number(1)
	ascending := []api.Value{
		null, number(-api.MaxInteger), number(-1), number(0), one, number(api.MaxInteger),
		enum("B"), enum("a"), enum("a-b"), enum("ab"),
		octets(""), octets("\x00"), octets("\x00\x00"), octets("\x01"), octets("\xff"),
		oid(0, 1), oid(0, 1, 0), oid(0, 2), oid(1, 0),
		{Kind: api.ValueReal, N: -1, E: 5}, {Kind: api.ValueReal}, {Kind: api.ValueReal, N: 1, E: -3}, {Kind: api.ValueReal, N: 1, E: 2}, {Kind: api.ValueReal, N: 3, E: -9},
		record(""), record("a", null), record("a", one), record("a b", null, null), record("a b", null, one), record("a b", one, null), record("a c", null, null), record("b", null), record("b a", null, null),
		list(), list(null), list(null, null), list(null, one), list(one), list(one, null), list(list()),
		bag(), bag(null), bag(null, one),
		union("a", one), union("b", null), union("b", one),
		open("", octets("\xff")), open("A", null), open("A", one), open("B", null),
		{Kind: api.ValueVerdict}, {Kind: api.ValueVerdict, N: 1},
	}
	for i, a := range ascending {
		for j, b := range ascending {
			want := 0
			switch {
			case i < j:
				want = -1
			case i > j:
				want = 1
			}
			wantCompared(t, a, b, want, api.OK)
		}
	}
	empty := api.Value{Kind: api.ValueList, Names: []string{}, Items: []api.Value{}}
	wantCompared(t, list(), empty, 0, api.OK)
}

// P5.4: the errors of the first value come before those of the second one.
func TestCompareErrors(t *testing.T) {
	none, fine := api.Value{Kind: api.ValueKinds}, number(1)
	twice := record("a a", fine, fine)
	wantCompared(t, none, twice, 0, api.ErrKind)
	wantCompared(t, twice, none, 0, api.ErrDouble)
	wantCompared(t, fine, twice, 0, api.ErrDouble)
	wantCompared(t, twice, fine, 0, api.ErrDouble)
	wantCompared(t, bag(number(2), fine), none, 0, api.ErrOrder)
	wantCompared(t, deepList(api.MaxDepth), deepList(api.MaxDepth), 0, api.OK)
	wantCompared(t, fine, deepList(api.MaxDepth+1), 0, api.ErrLarge)
}

func wantValueAt(t *testing.T, v api.Value, place []int, want api.Value, e api.Errno) {
	t.Helper()
	got, gotE := values.ValueAt(v, place)
	wantResult(t, fmt.Sprintf("ValueAt %+v, %v", v, place), got, gotE, want, e)
}

// P5.4: the value at a place, from the outside to it.
func TestValueAt(t *testing.T) {
	v := record("a b", list(number(7), number(8)), union("c", open("A", oid(1, 2))))
	wantValueAt(t, v, nil, v, api.OK)
	wantValueAt(t, v, []int{0}, v.Items[0], api.OK)
	wantValueAt(t, v, []int{0, 1}, number(8), api.OK)
	wantValueAt(t, v, []int{1}, v.Items[1], api.OK)
	wantValueAt(t, v, []int{1, 0, 0, 1}, number(2), api.OK)
	for _, place := range [][]int{{2}, {-1}, {0, 2}, {0, -1}, {0, 0, 0}, {1, 1}, {1, 0, 0, 2}, {1 << 62}, {-1 << 63}} {
		wantValueAt(t, v, place, api.Value{}, api.ErrMissing)
	}
	wantValueAt(t, plainOf(t, "{x {y 5}}"), []int{0, 0}, number(5), api.OK)
	wantValueAt(t, list(api.Value{N: 1}), []int{5}, api.Value{}, api.ErrForm)
}

func wantChanged(t *testing.T, v api.Value, place []int, by, want api.Value, e api.Errno) {
	t.Helper()
	got, gotE := values.Changed(v, place, by)
	wantResult(t, fmt.Sprintf("Changed %+v, %v, %+v", v, place, by), got, gotE, want, e)
}

// P5.4: a value in which another one is at a place.
func TestChanged(t *testing.T) {
	v := record("a b", list(number(7), number(8)), number(9))
	wantChanged(t, v, nil, number(1), number(1), api.OK)
	wantChanged(t, v, []int{1}, list(), record("a b", v.Items[0], list()), api.OK)
	wantChanged(t, v, []int{0, 0}, number(9), record("a b", list(number(9), number(8)), number(9)), api.OK)
	wantChanged(t, v, []int{0, 1}, number(8), v, api.OK)
	for _, place := range [][]int{{2}, {-1}, {0, 2}, {0, -1}, {0, 0, 0}} {
		wantChanged(t, v, place, number(1), api.Value{}, api.ErrMissing)
	}
}

// P5.4: bags around the place are sorted again, from the inside to the outside.
func TestChangedBags(t *testing.T) {
	wantChanged(t, bag(number(1), number(3), number(5)), []int{0}, number(4), bag(number(3), number(4), number(5)), api.OK)
	wantChanged(t, bag(number(1), number(3), number(5)), []int{2}, number(1), bag(number(1), number(1), number(3)), api.OK)
	// Only when the inner bag is sorted it comes behind the other one.
	inner := bag(bag(number(1), number(6)), bag(number(4), number(7)))
	wantChanged(t, inner, []int{0, 0}, number(9), bag(bag(number(4), number(7)), bag(number(6), number(9))), api.OK)
	wantChanged(t, list(inner, bag()), []int{0, 1, 1}, number(2), list(bag(bag(number(1), number(6)), bag(number(2), number(4))), bag()), api.OK)
	wantChanged(t, bag(record("a", bag(number(1), number(2))), record("a", bag(number(1), number(4)))), []int{0, 0, 0}, number(3),
		bag(record("a", bag(number(1), number(4))), record("a", bag(number(2), number(3)))), api.OK)
}

// P5.4: the errors of the value, of the other one, ErrMissing, then the error of the result.
func TestChangedErrors(t *testing.T) {
	fine, none, twice := list(number(1)), api.Value{Kind: api.ValueKinds}, record("a a", number(1), number(1))
	wantChanged(t, none, []int{5}, twice, api.Value{}, api.ErrKind)
	wantChanged(t, fine, []int{5}, twice, api.Value{}, api.ErrDouble)
	wantChanged(t, fine, []int{5}, deepList(api.MaxDepth), api.Value{}, api.ErrMissing)
	wantChanged(t, fine, []int{0}, deepList(api.MaxDepth), api.Value{}, api.ErrLarge)
	wantChanged(t, fine, []int{0}, deepList(api.MaxDepth-1), deepList(api.MaxDepth), api.OK)
	wantChanged(t, fine, nil, deepList(api.MaxDepth), deepList(api.MaxDepth), api.OK)
	wantChanged(t, oid(1, 2), []int{1}, number(40), api.Value{}, api.ErrRange)
	wantChanged(t, oid(1, 2), []int{1}, enum("a"), api.Value{}, api.ErrShape)
	wantChanged(t, open("", octets("")), []int{0}, chars(""), api.Value{}, api.ErrShape)
	wantChanged(t, open("A", octets("")), []int{0}, chars(""), open("A", chars("")), api.OK)
	full := list(list(numbers(38)...), list(numbers(38)...), list(numbers(39)...)) // 119 values
	wantChanged(t, full, []int{0, 5}, list(number(0)), list(list(append(append(numbers(5), list(number(0))), full.Items[0].Items[6:]...)...), full.Items[1], full.Items[2]), api.OK)
	wantChanged(t, full, []int{0, 5}, list(number(0), number(0)), api.Value{}, api.ErrLarge)
}
