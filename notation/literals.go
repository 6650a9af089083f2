package notation

import (
	"strings"

	"examiner/api"
)

// A literal is a kind of token that stands for a string, and how the string is taken from it.
type literal struct {
	token, value int
	decoded      func(string) string
}

// literals returns the kinds of strings that have tokens of their own.
func literals() [3]literal {
	return [3]literal{
		{api.TokenChars, api.ValueChars, charsOf},
		{api.TokenBits, api.ValueBits, bitsOf},
		{api.TokenOctets, api.ValueOctets, octetsOf},
	}
}

// charsOf returns the string that stands between quotation marks.
func charsOf(token string) string {
	return strings.ReplaceAll(token[1:len(token)-1], `""`, `"`)
}

func bitsOf(token string) string { return token[1 : len(token)-2] }

// octetsOf returns the bytes whose halves are digits; of an odd number of them the last half is 0.
func octetsOf(token string) string {
	digits := token[1 : len(token)-2]
	octets := make([]byte, (len(digits)+1)/2)
	for i := range len(digits) {
		half := digits[i] - '0'
		if digits[i] >= 'A' {
			half = digits[i] - 'A' + 10
		}
		if i%2 == 0 {
			half <<= 4
		}
		octets[i/2] |= half
	}
	return string(octets)
}
