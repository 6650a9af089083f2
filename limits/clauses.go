package limits

import "examiner/api"

// A clause is a node about a whole string that has no operands about strings: LimitText, LimitSize or LimitFrom.
type clause struct {
	kind  int
	mark  marks
	text  string
	among []api.Span // sizes, or characters
}

// marks are a set of nodes of a constraint. As a set of clauses they say all that matters about a string.
type marks uint32

func markOf(index int) marks { return 1 << index }

// clauses are a constraint of strings.
type clauses struct {
	nodes api.Limits
	list  []clause
}

func clausesOf(l api.Limits) clauses {
	c := clauses{nodes: l}
	if len(l) > 0 {
		c.collect(len(l) - 1)
	}
	return c
}

// collect puts the clauses of a node into the list.
func (c *clauses) collect(index int) {
	n := c.nodes[index]
	found := clause{kind: n.Kind, mark: markOf(index), text: n.Text}
	switch n.Kind {
	case api.LimitText:
		c.list = append(c.list, found)
	case api.LimitSize, api.LimitFrom:
		found.among = numbersOf(c.nodes, n.Args[0])
		c.list = append(c.list, found)
	default:
		for _, arg := range n.Args {
			c.collect(arg)
		}
	}
}

// permit returns whether a string satisfies the constraint.
func (c clauses) permit(s string) bool { return c.hold(c.satisfiedBy(s)) }

// satisfiedBy returns which clauses a string satisfies.
func (c clauses) satisfiedBy(s string) marks {
	var m marks
	for _, l := range c.list {
		if l.isSatisfiedBy(s) {
			m |= l.mark
		}
	}
	return m
}

func (l clause) isSatisfiedBy(s string) bool {
	switch l.kind {
	case api.LimitText:
		return s == l.text
	case api.LimitSize:
		return has(l.among, len(s))
	}
	return areAmong(s, l.among)
}

// hold returns whether a string that satisfies these clauses alone satisfies the constraint.
func (c clauses) hold(m marks) bool {
	return len(c.nodes) == 0 || c.holds(len(c.nodes)-1, m)
}

func (c clauses) holds(index int, m marks) bool {
	n := c.nodes[index]
	switch n.Kind {
	case api.LimitText, api.LimitSize, api.LimitFrom:
		return m&markOf(index) != 0
	case api.LimitBoth:
		return c.holds(n.Args[0], m) && c.holds(n.Args[1], m)
	case api.LimitWithout:
		return c.holds(n.Args[0], m) && !c.holds(n.Args[1], m)
	}
	for _, arg := range n.Args {
		if c.holds(arg, m) {
			return true
		}
	}
	return false
}
