package limits

import (
	"strings"

	"examiner/api"
)

// spanOf returns the numbers of a LimitRange.
func spanOf(n api.Limit) api.Span { return api.Span{Low: n.Low, High: n.High} }

// permittedNumbers returns the numbers that the constraint of a type permits, of lists the sizes.
func permittedNumbers(t api.Type) []api.Span {
	switch {
	case len(t.Limits) > 0:
		return numbersOf(t.Limits, len(t.Limits)-1)
	case isList(t.Kind):
		return []api.Span{sizesOf(t.Kind)}
	}
	return []api.Span{wholeNumbers()}
}

// numbersOf returns the numbers, sizes or characters that satisfy a node, of a LimitSize or a LimitFrom those that its operand has.
func numbersOf(l api.Limits, index int) []api.Span {
	n := l[index]
	switch n.Kind {
	case api.LimitRange:
		return []api.Span{spanOf(n)}
	case api.LimitText:
		return charactersIn(n.Text)
	}
	first := numbersOf(l, n.Args[0])
	if len(n.Args) == 1 {
		return first
	}
	second := numbersOf(l, n.Args[1])
	return combined(operationOf(n.Kind), first, second)
}

// operationOf returns what a node with two operands does with their numbers. Additions count as what they are added to.
func operationOf(kind int) int {
	switch kind {
	case api.LimitBoth:
		return api.SpanBoth
	case api.LimitWithout:
		return api.SpanWithout
	}
	return api.SpanUnion
}

// charactersIn returns the characters of a string of ASCII.
func charactersIn(s string) []api.Span {
	var l []api.Span
	for c := range asciiCharacters().High + 1 {
		if strings.IndexByte(s, byte(c)) >= 0 {
			l = appended(l, api.Span{Low: c, High: c})
		}
	}
	return l
}

// isPermitted returns whether a value of the kind of a type satisfies its constraint.
func isPermitted(t api.Type, v api.Value) bool {
	switch {
	case t.Kind == api.TypeInt:
		return has(permittedNumbers(t), v.N)
	case isList(t.Kind):
		return has(permittedNumbers(t), len(v.Items))
	case isString(t.Kind):
		return clausesOf(t.Limits).permit(v.S)
	}
	return true
}
