package notation

import (
	"cmp"
	"slices"
	"strings"

	"examiner/api"
)

const maxExponent = 1000

// valueParts says what values of a kind have.
type valueParts struct{ n, e, s, names, items bool }

var partsOfValues = [api.ValueKinds]valueParts{
	api.ValueBool:    {n: true},
	api.ValueInt:     {n: true},
	api.ValueEnum:    {s: true},
	api.ValueBits:    {s: true},
	api.ValueOctets:  {s: true},
	api.ValueChars:   {s: true},
	api.ValueOid:     {items: true},
	api.ValueReal:    {n: true, e: true},
	api.ValueRecord:  {names: true, items: true},
	api.ValueList:    {items: true},
	api.ValueBag:     {items: true},
	api.ValueUnion:   {names: true, items: true},
	api.ValueOpen:    {s: true, items: true},
	api.ValueVerdict: {n: true},
}

// valueError returns the first error of the values within a value that is not too large.
func valueError(v api.Value) api.Errno {
	if e := ownValueError(v); e != api.OK {
		return e
	}
	for _, item := range v.Items {
		if e := valueError(item); e != api.OK {
			return e
		}
	}
	return api.OK
}

// ownValueError is about a value without those within it.
func ownValueError(v api.Value) api.Errno {
	if v.Kind < 0 || v.Kind >= api.ValueKinds {
		return api.ErrKind
	}
	c := valueCheck{v}
	return firstBroken(
		rule{api.ErrForm, c.hasForeign},
		rule{api.ErrRange, c.isOutOfRange},
		rule{api.ErrLarge, c.isTooLong},
		rule{api.ErrShape, c.isMisshapen},
		rule{api.ErrType, c.hasWrongCharacters},
		rule{api.ErrName, c.isMisnamed},
		rule{api.ErrDouble, c.hasTwice},
		rule{api.ErrOrder, c.isDisordered},
	)
}

// A valueCheck is a value. Its methods tell what is wrong.
type valueCheck struct{ api.Value }

func (c valueCheck) hasForeign() bool {
	has := partsOfValues[c.Kind]
	return !has.n && c.N != 0 || !has.e && c.E != 0 || !has.s && c.S != "" || !has.names && len(c.Names) > 0 || !has.items && len(c.Items) > 0
}

func (c valueCheck) isOutOfRange() bool {
	switch c.Kind {
	case api.ValueBool:
		return c.N < 0 || c.N > 1
	case api.ValueReal:
		return !isReal(c.N, c.E)
	case api.ValueOid:
		return !areArcs(c.Items)
	case api.ValueVerdict:
		return c.N < 0 || c.N >= api.Verdicts
	}
	return !isInteger(c.N)
}

func isReal(n, e int) bool {
	if n == 0 {
		return e == 0
	}
	return isInteger(n) && n%2 != 0 && e >= -maxExponent && e <= maxExponent
}

// areArcs returns whether the numbers among some values are in the range that their places in an object identifier have.
func areArcs(items []api.Value) bool {
	for i, v := range items {
		if v.Kind != api.ValueInt {
			continue
		}
		greatest := api.MaxInteger
		switch {
		case i == 0:
			greatest = 2
		case i == 1 && items[0].Kind == api.ValueInt && items[0].N < 2:
			greatest = 39
		}
		if v.N < 0 || v.N > greatest {
			return false
		}
	}
	return true
}

func (c valueCheck) isTooLong() bool {
	switch c.Kind {
	case api.ValueBits, api.ValueOctets, api.ValueChars:
		return len(c.S) > api.MaxString
	case api.ValueRecord:
		return len(c.Items) > api.MaxFields
	case api.ValueOid, api.ValueList, api.ValueBag:
		return len(c.Items) > api.MaxItems
	}
	return false
}

func (c valueCheck) isMisshapen() bool {
	switch c.Kind {
	case api.ValueOid:
		return len(c.Items) < 2 || slices.ContainsFunc(c.Items, func(v api.Value) bool { return v.Kind != api.ValueInt })
	case api.ValueRecord:
		return len(c.Names) != len(c.Items)
	case api.ValueUnion:
		return len(c.Names) != 1 || len(c.Items) != 1
	case api.ValueOpen:
		return len(c.Items) != 1 || c.S == "" && c.Items[0].Kind != api.ValueOctets
	}
	return false
}

func (c valueCheck) hasWrongCharacters() bool {
	switch c.Kind {
	case api.ValueBits:
		return !isBits(c.S)
	case api.ValueChars:
		return !hasOnly(c.S, 0, 127)
	}
	return false
}

func isBits(s string) bool { return strings.Trim(s, "01") == "" }

// hasOnly returns whether all characters of a string are from one to another one.
func hasOnly(s string, least, greatest byte) bool {
	for at := range len(s) {
		if s[at] < least || s[at] > greatest {
			return false
		}
	}
	return true
}

func (c valueCheck) isMisnamed() bool {
	for _, name := range c.Names {
		if !isName(name) {
			return true
		}
	}
	switch c.Kind {
	case api.ValueEnum:
		return !isName(c.S)
	case api.ValueOpen:
		return c.S != "" && !isName(c.S)
	}
	return false
}

func (c valueCheck) hasTwice() bool {
	for i := range c.Names {
		if isRepeated(c.Names, i) {
			return true
		}
	}
	return false
}

func (c valueCheck) isDisordered() bool {
	return c.Kind == api.ValueBag && !slices.IsSortedFunc(c.Items, compareValues)
}

// compareValues is the order of the items of a bag.
func compareValues(a, b api.Value) int {
	return cmp.Or(
		cmp.Compare(a.Kind, b.Kind),
		cmp.Compare(a.N, b.N),
		cmp.Compare(a.E, b.E),
		cmp.Compare(a.S, b.S),
		slices.Compare(a.Names, b.Names),
		slices.CompareFunc(a.Items, b.Items, compareValues),
	)
}

func isZeroValue(v api.Value) bool {
	return v.Kind == 0 && v.N == 0 && v.E == 0 && v.S == "" && len(v.Names) == 0 && len(v.Items) == 0
}
