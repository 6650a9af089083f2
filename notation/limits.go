package notation

import (
	"slices"

	"examiner/api"
	"examiner/copies"
)

// isTree returns whether the nodes of a constraint are one tree, or none at all.
func isTree(l api.Limits) bool {
	if len(l) > api.MaxLimitNodes {
		return false
	}
	var roots []int // of the trees that no node has taken as operands yet
	for i, n := range l {
		if !isLimitNode(n) || len(n.Args) > len(roots) {
			return false
		}
		rest := len(roots) - len(n.Args)
		if !slices.Equal(roots[rest:], n.Args) {
			return false
		}
		roots = append(roots[:rest], i)
	}
	return len(roots) <= 1
}

// isLimitNode returns whether a node has what its kind has, and as many operands.
func isLimitNode(n api.Limit) bool {
	if n.Kind != api.LimitRange && (n.Low != 0 || n.High != 0) || n.Kind != api.LimitText && n.Text != "" {
		return false
	}
	switch n.Kind {
	case api.LimitRange, api.LimitText:
		return len(n.Args) == 0
	case api.LimitSize, api.LimitFrom:
		return len(n.Args) == 1
	case api.LimitUnion, api.LimitBoth, api.LimitWithout:
		return len(n.Args) == 2
	case api.LimitMarker:
		return len(n.Args) == 1 || len(n.Args) == 2
	}
	return false
}

// rootOf returns the last node of a constraint that has nodes.
func rootOf(l api.Limits) api.Limit { return l[len(l)-1] }

// bothLimits returns the constraint of a type to which a reference with the second constraint refers, if the type has the first one.
func bothLimits(first, second api.Limits) api.Limits {
	if len(first) == 0 || len(second) == 0 {
		return slices.Concat(first, second)
	}
	if root := rootOf(first); root.Kind == api.LimitMarker {
		first = first[:root.Args[0]+1]
	}
	root := rootOf(second)
	if root.Kind != api.LimitMarker {
		return withBoth(nil, first, second)
	}
	var all api.Limits
	var operands []int
	from := 0
	for _, arg := range root.Args {
		all = withBoth(all, first, moved(second[from:arg+1], -from))
		operands = append(operands, len(all)-1)
		from = arg + 1
	}
	return append(all, api.Limit{Kind: api.LimitMarker, Args: operands})
}

// withBoth returns nodes, and behind them LimitBoth of two constraints.
func withBoth(before, first, second api.Limits) api.Limits {
	all := slices.Concat(before, moved(first, len(before)))
	low := len(all) - 1
	all = append(all, moved(second, len(all))...)
	return append(all, api.Limit{Kind: api.LimitBoth, Args: []int{low, len(all) - 1}})
}

// moved returns the nodes of a constraint as they are behind so many others.
func moved(l api.Limits, by int) api.Limits {
	out := copies.OfLimits(l)
	for _, n := range out {
		for i := range n.Args {
			n.Args[i] += by
		}
	}
	return out
}
