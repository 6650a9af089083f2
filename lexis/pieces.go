package lexis

import (
	"strconv"
	"strings"

	"examiner/api"
)

// The kinds of pieces are those of tokens, and these.
const (
	pieceSpace = api.TokenKinds + iota
	pieceComment
)

// A piece is a token, a comment or a character that only separates: a text is nothing but pieces side by side.
type piece struct{ kind, from, to int }

func (p piece) isToken() bool { return p.kind < api.TokenKinds }

// piecesOf returns the pieces of a text, or the place of the first fault.
func piecesOf(lang int, s string) ([]piece, int, api.Errno) {
	if !isLanguage(lang) {
		return nil, 0, api.ErrKind
	}
	if at, e := CheckText(s); e != api.OK {
		return nil, at, e
	}
	var pieces []piece
	tokens := 0
	for at := 0; at < len(s); {
		kind, length, e := pieceOf(lang, s[at:])
		if e != api.OK {
			return nil, at, e
		}
		p := piece{kind, at, at + length}
		if p.isToken() {
			tokens++
		}
		pieces = append(pieces, p)
		at = p.to
	}
	// Too many tokens are told only when nothing else is wrong, however late it stands.
	if tokens > api.MaxTokens {
		return nil, 0, api.ErrLarge
	}
	return pieces, 0, api.OK
}

// pieceOf returns the kind and the length of the piece with which the rest of a text begins.
func pieceOf(lang int, rest string) (int, int, api.Errno) {
	if isSpace(rest[0]) {
		return pieceSpace, 1, api.OK
	}
	// Comments come before symbols: in both languages their first character alone may be one.
	if beginsComment(lang, rest) {
		length, e := commentLength(lang, rest)
		return pieceComment, length, e
	}
	switch c := rest[0]; {
	case isLetter(c):
		return wordPiece(lang, rest)
	case isDigit(c):
		return numberPiece(rest)
	case c == '"':
		return charsPiece(rest)
	case c == '\'':
		return digitsPiece(lang, rest)
	}
	return symbolPiece(lang, rest)
}

// wordPiece is about names and reserved words.
func wordPiece(lang int, rest string) (int, int, api.Errno) {
	length := wordLength(lang, rest)
	if length > api.MaxName {
		return 0, 0, api.ErrName
	}
	if isListed(wordList(lang), rest[:length]) {
		return api.TokenWord, length, api.OK
	}
	return api.TokenName, length, api.OK
}

// wordLength returns how many characters belong to the name, or the reserved word, whose first letter is given.
func wordLength(lang int, rest string) int {
	at := 1
	for at < len(rest) && continuesWord(lang, rest[at:]) {
		at++
	}
	return at
}

func continuesWord(lang int, rest string) bool {
	switch {
	case isLetterOrDigit(rest[0]):
		return true
	case lang == api.LangTtcn:
		return rest[0] == '_'
	}
	return rest[0] == '-' && len(rest) > 1 && isLetterOrDigit(rest[1])
}

func numberPiece(rest string) (int, int, api.Errno) {
	length := 1
	for length < len(rest) && isDigit(rest[length]) {
		length++
	}
	if rest[0] == '0' && length > 1 {
		return 0, 0, api.ErrSyntax
	}
	if n, err := strconv.ParseInt(rest[:length], 10, 64); err != nil || n > api.MaxInteger {
		return 0, 0, api.ErrRange
	}
	return api.TokenNumber, length, api.OK
}

func charsPiece(rest string) (int, int, api.Errno) {
	end := 1
	for {
		n, ends := closingMark(rest[end:], '"')
		if !ends {
			return 0, 0, api.ErrOpen
		}
		end += n + 1
		if end == len(rest) || rest[end] != '"' {
			break
		}
		end++
	}
	if end-2 > api.MaxString {
		return 0, 0, api.ErrLarge
	}
	return api.TokenChars, end, api.OK
}

// digitsPiece is about bits and octets.
func digitsPiece(lang int, rest string) (int, int, api.Errno) {
	n, ends := closingMark(rest[1:], '\'')
	switch {
	case !ends:
		return 0, 0, api.ErrOpen
	case n > api.MaxString:
		return 0, 0, api.ErrLarge
	}
	kind := digitsKind(lang, rest[1:1+n], rest[n+2:])
	if kind == api.None {
		return 0, 0, api.ErrSyntax
	}
	return kind, n + 3, api.OK
}

// digitsKind returns the kind of digits by the letter that must stand behind them, or None.
func digitsKind(lang int, digits, behind string) int {
	const hexadecimal = "0123456789ABCDEF"
	switch {
	case strings.HasPrefix(behind, "B") && consistsOf(digits, "01"):
		return api.TokenBits
	case lang == api.LangAsn && strings.HasPrefix(behind, "H") && consistsOf(digits, hexadecimal):
		return api.TokenOctets
	case lang == api.LangTtcn && strings.HasPrefix(behind, "O") && consistsOf(digits, hexadecimal) && len(digits)%2 == 0:
		return api.TokenOctets
	}
	return api.None
}

func consistsOf(s, permitted string) bool { return strings.TrimLeft(s, permitted) == "" }

// closingMark returns where a mark stands, if it does so before the end of the line and any tab.
func closingMark(rest string, mark byte) (int, bool) {
	for at := range len(rest) {
		switch rest[at] {
		case mark:
			return at, true
		case '\n', '\t':
			return 0, false
		}
	}
	return 0, false
}

func symbolPiece(lang int, rest string) (int, int, api.Errno) {
	for length := min(longestSymbol, len(rest)); length > 0; length-- {
		s := rest[:length]
		if !strings.Contains(s, " ") && isListed(symbolList(lang), s) {
			return api.TokenSymbol, length, api.OK
		}
	}
	return 0, 0, api.ErrSyntax
}
