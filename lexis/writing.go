package lexis

import (
	"strings"

	"examiner/api"
)

// CheckToken accepts tokens that are read as themselves, at a place that a text may have.
func CheckToken(lang int, t api.Token) api.Errno {
	switch {
	case !isLanguage(lang), t.Kind < 0, t.Kind >= api.TokenKinds:
		return api.ErrKind
	case !isReadAs(lang, t.Text, t):
		return api.ErrSyntax
	case t.At < 0, t.At > api.MaxText:
		return api.ErrRange
	}
	return api.OK
}

// JoinedText returns tokens with canonical spacing.
func JoinedText(lang int, l []api.Token) (string, api.Errno) {
	switch {
	case !isLanguage(lang):
		return "", api.ErrKind
	case len(l) > api.MaxTokens:
		return "", api.ErrLarge
	}
	for _, t := range l {
		if e := CheckToken(lang, t); e != api.OK {
			return "", e
		}
	}
	var text strings.Builder
	for i, t := range l {
		if i > 0 && !standTogether(lang, l[i-1], t) {
			text.WriteByte(' ')
		}
		text.WriteString(t.Text)
	}
	if text.Len() > api.MaxText {
		return "", api.ErrLarge
	}
	return text.String(), api.OK
}

// standTogether returns whether no blank stands between two tokens.
func standTogether(lang int, first, second api.Token) bool {
	return (noBlankBehind(first) || noBlankBefore(second)) && isReadAs(lang, first.Text+second.Text, first, second)
}

func noBlankBehind(t api.Token) bool {
	switch t.Text {
	case "(", "[", "{", "[[", ".", "..", "@", "&", "!":
		return true
	}
	return false
}

func noBlankBefore(t api.Token) bool {
	switch t.Text {
	case ",", ";", ")", "]", "}", "]]", ".", "..", ":":
		return true
	}
	return false
}

// isReadAs returns whether a text has just these tokens, wherever they stand.
func isReadAs(lang int, s string, want ...api.Token) bool {
	tokens, _, e := TokensOf(lang, s)
	if e != api.OK || len(tokens) != len(want) {
		return false
	}
	for i, t := range tokens {
		if t.Kind != want[i].Kind || t.Text != want[i].Text {
			return false
		}
	}
	return true
}
