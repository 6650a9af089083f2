package notation

import "examiner/api"

// A limitReader reads the constraint of a type, each node behind its operands. What reads a part of it returns the index of its root.
type limitReader struct {
	*reader
	kind   int // of the type
	within int // LimitSize, LimitFrom, or neither (None)
	nodes  api.Limits
}

// constraint reads the constraint of a type, if its kind may have one and there is one.
func (r *reader) constraint(kind int) api.Limits {
	if !typeParts[kind].limits || !r.sees("(") {
		return nil
	}
	l := &limitReader{reader: r, kind: kind, within: api.None}
	l.parenthesized(l.whole)
	return l.nodes
}

// add puts a node behind those that were read.
func (l *limitReader) add(n api.Limit) int {
	l.nodes = append(l.nodes, n)
	return len(l.nodes) - 1
}

// parenthesized reads parentheses, and what stands in them.
func (l *limitReader) parenthesized(read func() int) int {
	l.must("(")
	l.enter()
	root := read()
	l.leave()
	l.must(")")
	return root
}

// whole reads what stands in the outermost parentheses, which alone may have a marker.
func (l *limitReader) whole() int {
	root := l.union()
	if !l.takes(",") {
		return root
	}
	l.must("...")
	operands := []int{root}
	if l.takes(",") {
		additions := l.union()
		operands = append(operands, additions)
	}
	return l.add(api.Limit{Kind: api.LimitMarker, Args: operands})
}

// The operators, from the weakest on.
func (l *limitReader) union() int { return l.chain("|", api.LimitUnion, l.both) }
func (l *limitReader) both() int  { return l.chain("^", api.LimitBoth, l.without) }

// chain reads operands that belong together from the left.
func (l *limitReader) chain(operator string, kind int, operand func() int) int {
	first := operand()
	for l.takes(operator) {
		second := operand()
		first = l.add(api.Limit{Kind: kind, Args: []int{first, second}})
	}
	return first
}

// without reads EXCEPT, of which only one stands between two operands.
func (l *limitReader) without() int {
	first := l.operand()
	if !l.takes("EXCEPT") {
		return first
	}
	second := l.operand()
	return l.add(api.Limit{Kind: api.LimitWithout, Args: []int{first, second}})
}

// operand reads what has no operator of its own, but parentheses. Within SIZE only numbers can stand, within FROM only characters.
func (l *limitReader) operand() int {
	switch {
	case l.sees("("):
		return l.parenthesized(l.union)
	case l.within == api.LimitSize:
		return l.span()
	case l.within == api.LimitFrom:
		return l.characters()
	case l.takes("SIZE"):
		return l.enclosed(api.LimitSize)
	case l.takes("FROM"):
		return l.enclosed(api.LimitFrom)
	case l.seesEnd():
		return l.span()
	}
	return l.literal()
}

// enclosed reads the operand of LimitSize or LimitFrom.
func (l *limitReader) enclosed(kind int) int {
	l.within = kind
	operand := l.parenthesized(l.union)
	l.within = api.None
	return l.add(api.Limit{Kind: kind, Args: []int{operand}})
}

// span reads one number, or a range of them.
func (l *limitReader) span() int {
	n := api.Limit{Kind: api.LimitRange}
	n.Low = l.end()
	n.High = n.Low
	if l.takes("..") {
		n.High = l.end()
	}
	return l.add(n)
}

func (l *limitReader) seesEnd() bool { return l.seesNumber() || l.sees("MIN", "MAX") }

// end reads a number, which is an end of a range, or a range by itself.
func (l *limitReader) end() int {
	switch {
	case l.takes("MIN"):
		return -api.MaxInteger
	case l.takes("MAX"):
		return api.MaxInteger
	}
	return l.number()
}

// characters reads a range of characters, or, of a type whose strings are written so, a string.
func (l *limitReader) characters() int {
	if !l.seesCharacter() || l.tokenAt(1).Text != ".." && l.isTextKind(api.TokenChars) {
		return l.literal()
	}
	n := api.Limit{Kind: api.LimitRange}
	n.Low = l.character()
	l.must("..")
	n.High = l.character()
	return l.add(n)
}

// seesCharacter returns whether the next token is a string of one character.
func (l *limitReader) seesCharacter() bool {
	return l.seesKind(api.TokenChars) && len(charsOf(l.tokenAt(0).Text)) == 1
}

func (l *limitReader) character() int {
	if !l.seesCharacter() {
		l.wrong()
	}
	return int(charsOf(l.token(api.TokenChars))[0])
}

// literal reads a string as the type is.
func (l *limitReader) literal() int {
	for _, k := range literals() {
		if l.seesKind(k.token) && l.isTextKind(k.token) {
			text := k.decoded(l.token(k.token))
			return l.add(api.Limit{Kind: api.LimitText, Text: text})
		}
	}
	l.wrong()
	return api.None
}

// isTextKind returns whether the strings of the type are written as such tokens.
func (l *limitReader) isTextKind(token int) bool {
	switch l.kind {
	case api.TypeChars, api.TypeRef:
		return token == api.TokenChars
	case api.TypeBits:
		return token == api.TokenBits
	case api.TypeOctets:
		return token == api.TokenOctets
	}
	return false
}
