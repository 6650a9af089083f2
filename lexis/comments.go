package lexis

import (
	"strings"

	"examiner/api"
)

const (
	commentOpen  = "/*"
	commentClose = "*/"
)

// lineMark returns with what a comment begins that ends with its line.
func lineMark(lang int) string {
	if lang == api.LangAsn {
		return "--"
	}
	return "//"
}

func beginsComment(lang int, rest string) bool {
	return strings.HasPrefix(rest, commentOpen) || strings.HasPrefix(rest, lineMark(lang))
}

// commentLength returns how many characters the comment has with which the rest of a text begins.
func commentLength(lang int, rest string) (int, api.Errno) {
	if strings.HasPrefix(rest, commentOpen) {
		return enclosedLength(rest, lang == api.LangAsn)
	}
	line, _, _ := strings.Cut(rest, "\n")
	if lang == api.LangAsn {
		if n := strings.Index(line[2:], "--"); n >= 0 {
			return n + 4, api.OK
		}
	}
	return len(line), api.OK
}

// enclosedLength is about comments between commentOpen and commentClose, where nested tells whether further ones are within.
func enclosedLength(rest string, nested bool) (int, api.Errno) {
	depth := 1
	for at := len(commentOpen); at < len(rest); at++ {
		switch {
		case strings.HasPrefix(rest[at:], commentClose):
			depth--
			at++
		case nested && strings.HasPrefix(rest[at:], commentOpen):
			depth++
			at++
		}
		if depth == 0 {
			return at + 1, api.OK
		}
	}
	return 0, api.ErrOpen
}
