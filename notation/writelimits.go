package notation

import "examiner/api"

// A limitWriter writes the constraint of a type.
type limitWriter struct {
	*writer
	kind  int // of the type
	nodes api.Limits
}

// constraint writes the constraint of a type, if it has one.
func (w *writer) constraint(t api.Type) {
	if len(t.Limits) == 0 {
		return
	}
	l := limitWriter{w, t.Kind, t.Limits}
	w.fixed("(")
	if root := rootOf(t.Limits); root.Kind == api.LimitMarker {
		l.marker(root)
	} else {
		l.node(len(t.Limits)-1, api.None)
	}
	w.fixed(")")
}

func (l limitWriter) marker(n api.Limit) {
	l.node(n.Args[0], api.None)
	l.fixed(",", "...")
	if len(n.Args) == 2 {
		l.fixed(",")
		l.node(n.Args[1], api.None)
	}
}

// node writes a node that is no root with a marker, within LimitSize, LimitFrom or neither (None).
func (l limitWriter) node(index, within int) {
	n := l.nodes[index]
	switch n.Kind {
	case api.LimitRange:
		l.span(n, within)
	case api.LimitText:
		if within == api.LimitSize {
			l.refuse()
		}
		l.literal(n.Text)
	case api.LimitSize:
		l.enclosed("SIZE", n, within)
	case api.LimitFrom:
		l.enclosed("FROM", n, within)
	case api.LimitUnion:
		l.joined("|", n, within)
	case api.LimitBoth:
		l.joined("^", n, within)
	case api.LimitWithout:
		l.joined("EXCEPT", n, within)
	default:
		l.refuse()
	}
}

func (l limitWriter) span(n api.Limit, within int) {
	if within == api.LimitFrom {
		l.character(n.Low)
		l.fixed("..")
		l.character(n.High)
		return
	}
	l.end(n.Low)
	if n.High != n.Low {
		l.fixed("..")
		l.end(n.High)
	}
}

// character writes a character as a string.
func (l limitWriter) character(c int) {
	if c < ' ' || c > '~' {
		l.refuse()
	}
	l.chars(string(rune(c)))
}

// end writes a number, which is an end of a range, or a range by itself.
func (l limitWriter) end(n int) {
	switch n {
	case -api.MaxInteger:
		l.fixed("MIN")
	case api.MaxInteger:
		l.fixed("MAX")
	default:
		l.number(n)
	}
}

// literal writes a string as the type is.
func (l limitWriter) literal(s string) {
	switch l.kind {
	case api.TypeChars, api.TypeRef:
		l.chars(s)
	case api.TypeBits:
		l.bits(s)
	case api.TypeOctets:
		l.octets(s)
	default:
		l.refuse()
	}
}

func (l limitWriter) enclosed(word string, n api.Limit, within int) {
	if within != api.None {
		l.refuse()
	}
	l.fixed(word, "(")
	l.node(n.Args[0], n.Kind)
	l.fixed(")")
}

// joined writes two operands with an operator between them.
func (l limitWriter) joined(operator string, n api.Limit, within int) {
	l.operand(n, 0, within)
	l.fixed(operator)
	l.operand(n, 1, within)
}

func (l limitWriter) operand(n api.Limit, which, within int) {
	index := n.Args[which]
	if !isEnclosed(n.Kind, l.nodes[index].Kind, which == 1) {
		l.node(index, within)
		return
	}
	l.fixed("(")
	l.node(index, within)
	l.fixed(")")
}

// isEnclosed returns whether an operand stands in parentheses, by its kind and that of its node.
func isEnclosed(node, operand int, second bool) bool {
	switch node {
	case api.LimitUnion:
		return second && operand == api.LimitUnion
	case api.LimitBoth:
		return operand == api.LimitUnion || second && operand == api.LimitBoth
	}
	return operand == api.LimitUnion || operand == api.LimitBoth || operand == api.LimitWithout
}
