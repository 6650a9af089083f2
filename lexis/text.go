package lexis

import (
	"strings"

	"examiner/api"
)

// CheckText returns how many lines a text has, or the place of the first character that is not permitted.
func CheckText(s string) (int, api.Errno) {
	if len(s) > api.MaxText {
		return 0, api.ErrLarge
	}
	for at := range len(s) {
		if !isPermitted(s[at]) {
			return at, api.ErrForm
		}
	}
	return 1 + strings.Count(s, "\n"), api.OK
}

// PlaceOf returns the line and the column of a character, or of the end of the text.
func PlaceOf(s string, at int) (int, int, api.Errno) {
	if _, e := CheckText(s); e != api.OK {
		return 0, 0, e
	}
	if at < 0 || at > len(s) {
		return 0, 0, api.ErrRange
	}
	before := s[:at]
	// Without a line feed before it LastIndexByte is -1, as if one stood just before the text.
	return 1 + strings.Count(before, "\n"), at - strings.LastIndexByte(before, '\n'), api.OK
}

func isPermitted(c byte) bool { return c == '\t' || c == '\n' || c >= ' ' && c <= '~' }

func isSpace(c byte) bool { return c == ' ' || c == '\t' || c == '\n' }

func isLetter(c byte) bool { return c >= 'a' && c <= 'z' || c >= 'A' && c <= 'Z' }

func isDigit(c byte) bool { return c >= '0' && c <= '9' }

func isLetterOrDigit(c byte) bool { return isLetter(c) || isDigit(c) }
