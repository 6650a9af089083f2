package limits_test

import (
	"strings"

	"examiner/api"
)

// What is computed here is computed value by value, straight from the definitions.

// isSatisfiedByNumber returns whether a number, a size or a character satisfies a node, of SIZE and FROM what stands in them.
func isSatisfiedByNumber(l api.Limits, index, n int) bool {
	of := func(operand int) bool { return isSatisfiedByNumber(l, l[index].Args[operand], n) }
	switch l[index].Kind {
	case api.LimitRange:
		return l[index].Low <= n && n <= l[index].High
	case api.LimitText:
		return strings.Contains(l[index].Text, string([]byte{byte(n)}))
	case api.LimitUnion:
		return of(0) || of(1)
	case api.LimitBoth:
		return of(0) && of(1)
	case api.LimitWithout:
		return of(0) && !of(1)
	case api.LimitMarker:
		return of(0) || len(l[index].Args) == 2 && of(1)
	}
	return of(0)
}

// isSatisfiedByString returns whether a string satisfies a node.
func isSatisfiedByString(l api.Limits, index int, s string) bool {
	args := l[index].Args
	of := func(operand int) bool { return isSatisfiedByString(l, args[operand], s) }
	switch l[index].Kind {
	case api.LimitText:
		return s == l[index].Text
	case api.LimitSize:
		return isSatisfiedByNumber(l, args[0], len(s))
	case api.LimitFrom:
		for i := range len(s) {
			if !isSatisfiedByNumber(l, args[0], int(s[i])) {
				return false
			}
		}
		return true
	case api.LimitUnion:
		return of(0) || of(1)
	case api.LimitBoth:
		return of(0) && of(1)
	case api.LimitWithout:
		return of(0) && !of(1)
	}
	return of(0) || len(args) == 2 && of(1)
}

// isSatisfied returns whether a value of the kind of a type satisfies a constraint.
func isSatisfied(l api.Limits, v api.Value) bool {
	switch {
	case len(l) == 0:
		return true
	case v.Kind == api.ValueInt:
		return isSatisfiedByNumber(l, len(l)-1, v.N)
	case v.Kind == api.ValueList || v.Kind == api.ValueBag:
		return isSatisfiedByNumber(l, len(l)-1, len(v.Items))
	}
	return isSatisfiedByString(l, len(l)-1, v.S)
}

// inRoot returns a constraint without its additions.
func inRoot(l api.Limits) api.Limits {
	if len(l) == 0 || l[len(l)-1].Kind != api.LimitMarker {
		return l
	}
	return l[:l[len(l)-1].Args[0]+1]
}

// isSeen returns whether a number is seen: among the sizes of SIZE, or the characters of FROM.
func isSeen(l api.Limits, index, kind, n int) bool {
	args := l[index].Args
	of := func(operand int) bool { return isSeen(l, args[operand], kind, n) }
	switch l[index].Kind {
	case kind:
		return isSatisfiedByNumber(l, args[0], n)
	case api.LimitUnion:
		return of(0) || of(1)
	case api.LimitBoth:
		return of(0) && of(1)
	case api.LimitWithout, api.LimitMarker:
		return of(0)
	}
	return true
}

// spansWhere returns the numbers from one to another that are in a set.
func spansWhere(low, high int, isIn func(int) bool) []api.Span {
	var l []api.Span
	for n := low; n <= high; n++ {
		switch {
		case !isIn(n):
		case len(l) > 0 && l[len(l)-1].High == n-1:
			l[len(l)-1].High = n
		default:
			l = append(l, api.Span{Low: n, High: n})
		}
	}
	return l
}

// A fault is the index of a wrong node, and its error.
type fault struct {
	index int
	e     api.Errno
}

// faultsOf returns the faults of a node and its operands, by what may stand there: kinds of nodes, numbers, and the bytes of strings.
func faultsOf(l api.Limits, index int, at position) []fault {
	n := l[index]
	var found []fault
	for _, arg := range n.Args {
		found = append(found, faultsOf(l, arg, at.behind(n.Kind))...)
	}
	fits := n.Text != "" || !at.inFrom
	for i := range len(n.Text) {
		fits = fits && strings.IndexByte(at.bytes, n.Text[i]) >= 0
	}
	switch {
	case n.Kind == api.LimitMarker && index < len(l)-1:
		return append(found, fault{index, api.ErrState})
	case n.Kind < api.LimitUnion && !at.kinds[n.Kind]:
		return append(found, fault{index, api.ErrType})
	case n.Kind == api.LimitRange && (n.Low > n.High || n.Low < at.low || n.High > at.high):
		return append(found, fault{index, api.ErrRange})
	case n.Kind == api.LimitText && !fits:
		return append(found, fault{index, api.ErrType})
	case n.Kind == api.LimitText && len(n.Text) > api.MaxString:
		return append(found, fault{index, api.ErrLarge})
	}
	return found
}

// A position says what may stand at a place in a constraint.
type position struct {
	kinds     map[int]bool
	low, high int
	bytes     string
	inFrom    bool
	isList    bool
}

func (p position) behind(kind int) position {
	switch {
	case kind == api.LimitSize && p.isList:
		return position{kinds: map[int]bool{api.LimitRange: true}, high: api.MaxItems, isList: true}
	case kind == api.LimitSize:
		return position{kinds: map[int]bool{api.LimitRange: true}, high: api.MaxString}
	case kind == api.LimitFrom:
		return position{kinds: map[int]bool{api.LimitRange: true, api.LimitText: true}, high: 127, bytes: bytes(0, 127), inFrom: true, isList: p.isList}
	}
	return p
}

// positionOf returns what may stand at the root of the constraint of a type.
func positionOf(y api.Type) position {
	switch y.Kind {
	case api.TypeInt:
		return position{kinds: map[int]bool{api.LimitRange: true}, low: -api.MaxInteger, high: api.MaxInteger}
	case api.TypeBits:
		return position{kinds: map[int]bool{api.LimitText: true, api.LimitSize: true}, bytes: "01"}
	case api.TypeOctets:
		return position{kinds: map[int]bool{api.LimitText: true, api.LimitSize: true}, bytes: bytes(0, 255)}
	case api.TypeChars:
		return position{kinds: map[int]bool{api.LimitText: true, api.LimitSize: true, api.LimitFrom: true}, bytes: alphabetIn(y)}
	}
	return position{kinds: map[int]bool{api.LimitSize: true}, isList: true}
}

// alphabetIn returns the bytes that strings of a type may have.
func alphabetIn(y api.Type) string {
	switch {
	case y.Kind == api.TypeBits:
		return "01"
	case y.Kind == api.TypeOctets:
		return bytes(0, 255)
	case y.Name == api.Numeric:
		return " 0123456789"
	case y.Name == api.Printable:
		return " '()+,-./" + bytes('0', '9') + ":=?" + bytes('A', 'Z') + bytes('a', 'z')
	case y.Name == api.Visible:
		return bytes(32, 126)
	}
	return bytes(0, 127)
}

// firstFault returns what CheckLimits must return for a type whose constraint is a tree.
func firstFault(y api.Type) fault {
	first := fault{len(y.Limits), api.OK}
	if len(y.Limits) == 0 {
		return first
	}
	for _, f := range faultsOf(y.Limits, len(y.Limits)-1, positionOf(y)) {
		if f.index < first.index {
			first = f
		}
	}
	return first
}
