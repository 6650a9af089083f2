package limits

import "examiner/api"

// seen returns what the packed encodings see of a constraint of strings or lists: sizes (LimitSize) or characters (LimitFrom), all of them where it does not speak about them.
func seen(l api.Limits, kind int, all []api.Span) []api.Span {
	if len(l) == 0 {
		return all
	}
	return seenOf(l, len(l)-1, kind, all)
}

func seenOf(l api.Limits, index, kind int, all []api.Span) []api.Span {
	n := l[index]
	switch n.Kind {
	case kind:
		return numbersOf(l, n.Args[0])
	case api.LimitUnion, api.LimitBoth:
		first := seenOf(l, n.Args[0], kind, all)
		second := seenOf(l, n.Args[1], kind, all)
		return combined(operationOf(n.Kind), first, second)
	case api.LimitWithout, api.LimitMarker:
		return seenOf(l, n.Args[0], kind, all)
	}
	return all
}

// effective returns the span from the least to the greatest number of those that are seen, and whether it is open.
func effective(l []api.Span, open bool) (api.Span, bool, api.Errno) {
	if len(l) == 0 {
		return api.Span{}, false, api.ErrNone
	}
	return api.Span{Low: l[0].Low, High: l[len(l)-1].High}, open, api.OK
}
