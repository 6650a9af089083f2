package limits

import (
	"slices"

	"examiner/api"
)

func wholeNumbers() api.Span { return api.Span{Low: -api.MaxInteger, High: api.MaxInteger} }

func asciiCharacters() api.Span { return api.Span{Low: 0, High: 127} }

// sizesOf returns the sizes of strings, or of lists.
func sizesOf(kind int) api.Span {
	if isList(kind) {
		return api.Span{Low: 0, High: api.MaxItems}
	}
	return api.Span{Low: 0, High: api.MaxString}
}

// isWithin returns whether a span has numbers, all of which are in another one.
func isWithin(s, bounds api.Span) bool {
	return s.Low <= s.High && s.Low >= bounds.Low && s.High <= bounds.High
}

// has returns whether a number is in one of some spans.
func has(l []api.Span, n int) bool {
	for _, s := range l {
		if n >= s.Low && n <= s.High {
			return true
		}
	}
	return false
}

// areAmong returns whether each byte of a string is in one of some spans.
func areAmong(s string, l []api.Span) bool {
	for at := range len(s) {
		if !has(l, int(s[at])) {
			return false
		}
	}
	return true
}

// combined returns the numbers of two sets of spans by an operation.
func combined(op int, a, b []api.Span) []api.Span {
	var edges []int // where a set may begin or end: between two of them nothing changes
	for _, s := range slices.Concat(a, b) {
		edges = append(edges, s.Low, s.High+1)
	}
	slices.Sort(edges)
	edges = slices.Compact(edges)
	var out []api.Span
	for i, edge := range edges {
		if isIn(op, has(a, edge), has(b, edge)) {
			out = appended(out, api.Span{Low: edge, High: edges[i+1] - 1})
		}
	}
	return out
}

// isIn returns whether a number is in what an operation makes of two sets, by whether it is in them.
func isIn(op int, first, second bool) bool {
	switch op {
	case api.SpanUnion:
		return first || second
	case api.SpanBoth:
		return first && second
	}
	return first && !second
}

// appended returns spans with another one behind them, as a part of the last one if no number is between.
func appended(l []api.Span, s api.Span) []api.Span {
	last := len(l) - 1
	if last >= 0 && l[last].High+1 == s.Low {
		l[last].High = s.High
		return l
	}
	return append(l, s)
}

// nearest returns the number in a set that is nearest to 0.
func nearest(l []api.Span) (int, bool) {
	best, found := 0, false
	for _, s := range l {
		n := max(s.Low, min(s.High, 0))
		if !found || turnOf(n) < turnOf(best) {
			best, found = n, true
		}
	}
	return best, found
}

// turnOf returns the index of a number in 0, 1, -1, 2, -2, ..
func turnOf(n int) int {
	if n > 0 {
		return 2*n - 1
	}
	return -2 * n
}
