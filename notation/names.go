package notation

import (
	"strings"

	"examiner/api"
	"examiner/lexis"
)

// isName returns whether a string is a name of ASN.1 or TTCN-3, reserved words included.
func isName(s string) bool {
	if s == "" || len(s) > api.MaxName || !isLetter(s[0]) || strings.HasSuffix(s, "-") || strings.Contains(s, "--") {
		return false
	}
	for at := range len(s) {
		if c := s[at]; !isLetter(c) && !(c >= '0' && c <= '9') && c != '_' && c != '-' {
			return false
		}
	}
	return true
}

func isLetter(c byte) bool { return c >= 'a' && c <= 'z' || c >= 'A' && c <= 'Z' }

// isAsnName returns whether a string is a name as chapter 1 reads it.
func isAsnName(s string) bool {
	is, e := lexis.IsNameOf(api.LangAsn, s)
	return is && e == api.OK
}

// isCapital returns whether a string may name a type, a class, an object set, a parameter or a module.
func isCapital(s string) bool { return isAsnName(s) && s[0] <= 'Z' }

// isSmall returns whether a string may name a value, an object, a field or an item of an enumeration.
func isSmall(s string) bool { return isAsnName(s) && s[0] >= 'a' }

// namesError returns the first error of names: one that does not fit, or one that stands there before.
func namesError(names []string, fits func(string) bool) api.Errno {
	for i, name := range names {
		switch {
		case !fits(name):
			return api.ErrName
		case isRepeated(names, i):
			return api.ErrDouble
		}
	}
	return api.OK
}
