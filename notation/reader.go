package notation

import (
	"slices"
	"strconv"

	"examiner/api"
	"examiner/lexis"
)

// maxReadDepth is how many types, constraints and values may be within one another in a text.
const maxReadDepth = 20

// A reader goes through the tokens of a text. What cannot go on ends by a failure.
type reader struct {
	tokens []api.Token
	next   int // the index of the first token that was not read
	length int // of the text
	depth  int
}

// wholeText returns what a text is read as, and its length, or the place of what is wrong.
func wholeText[T any](s string, read func(*reader) T, check func(T) api.Errno) (T, int, api.Errno) {
	var none, whole T
	tokens, at, e := lexis.TokensOf(api.LangAsn, s)
	if e != api.OK {
		return none, at, e
	}
	r := &reader{tokens: tokens, length: len(s)}
	end := attempt(func() {
		whole = read(r)
		if !r.isAtEnd() {
			r.wrong()
		}
	})
	if end.e != api.OK {
		return none, end.at, end.e
	}
	if e := check(whole); e != api.OK {
		return none, 0, e
	}
	return whole, len(s), api.OK
}

func (r *reader) isAtEnd() bool { return r.next == len(r.tokens) }

// wrong ends the reading at a token that cannot stand there, or that is missing.
func (r *reader) wrong() {
	if r.isAtEnd() {
		panic(failure{r.length, api.ErrEnd})
	}
	panic(failure{r.tokens[r.next].At, api.ErrSyntax})
}

// enter begins a type, a constraint or a value, and leave ends it. Without a token it does not begin.
func (r *reader) enter() {
	r.depth++
	if r.depth > maxReadDepth && !r.isAtEnd() {
		panic(failure{r.tokens[r.next].At, api.ErrLarge})
	}
}

func (r *reader) leave() { r.depth-- }

// tokenAt returns the token so many behind the next one, or a token without characters.
func (r *reader) tokenAt(behind int) api.Token {
	if i := r.next + behind; i < len(r.tokens) {
		return r.tokens[i]
	}
	return api.Token{Kind: api.TokenKinds}
}

// sees returns whether the next token is one of some words, symbols, names or numbers.
func (r *reader) sees(texts ...string) bool { return slices.Contains(texts, r.tokenAt(0).Text) }

func (r *reader) seesKind(kind int) bool { return r.tokenAt(0).Kind == kind }

func (r *reader) seesName(fits func(string) bool) bool {
	return r.seesKind(api.TokenName) && fits(r.tokenAt(0).Text)
}

// takes reads a token if it is the next one.
func (r *reader) takes(text string) bool {
	if !r.sees(text) {
		return false
	}
	r.next++
	return true
}

// must reads tokens that must stand there.
func (r *reader) must(texts ...string) {
	for _, text := range texts {
		if !r.takes(text) {
			r.wrong()
		}
	}
}

// token reads a token of a kind.
func (r *reader) token(kind int) string {
	if !r.seesKind(kind) {
		r.wrong()
	}
	text := r.tokens[r.next].Text
	r.next++
	return text
}

// name reads a name of the kind that must stand there.
func (r *reader) name(fits func(string) bool) string {
	if !r.seesName(fits) {
		r.wrong()
	}
	return r.token(api.TokenName)
}

func (r *reader) smallName() string   { return r.name(isSmall) }
func (r *reader) capitalName() string { return r.name(isCapital) }
func (r *reader) anyName() string     { return r.name(isAsnName) }

func (r *reader) seesNumber() bool { return r.seesKind(api.TokenNumber) || r.sees("-") }

// number reads a number with or without a sign.
func (r *reader) number() int {
	negative := r.takes("-")
	n := r.digits()
	if negative {
		return -n
	}
	return n
}

func (r *reader) digits() int {
	// Numbers that are too great are no tokens, so that there is no error.
	n, _ := strconv.Atoi(r.token(api.TokenNumber))
	return n
}

// readList reads one item or more, with a symbol between each two of them.
func readList[T any](r *reader, symbol string, read func() T) []T {
	var items []T
	for {
		item := read()
		items = append(items, item)
		if !r.takes(symbol) {
			return items
		}
	}
}
