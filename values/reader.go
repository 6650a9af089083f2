package values

import (
	"strconv"

	"examiner/api"
	"examiner/lexis"
)

// A reader goes through the tokens of a text. What cannot go on ends by a failure.
type reader struct {
	*follower
	tokens []api.Token
	next   int // the index of the first token that was not read
	length int // of the text
	depth  int // how many values are begun, and have not ended
}

// read returns the value with a text, as a type says, or the place of what is wrong.
func (f *follower) read(t api.Type, text string) (api.Value, int, api.Errno) {
	tokens, at, e := lexis.TokensOf(api.LangAsn, text)
	if e != api.OK {
		return api.Value{}, at, e
	}
	r := &reader{follower: f, tokens: tokens, length: len(text)}
	var v api.Value
	end := attempt(func() {
		v = r.value(t)
		if !r.isAtEnd() {
			r.wrong()
		}
	})
	if end.e != api.OK {
		return api.Value{}, end.at, end.e
	}
	return v, 0, api.OK
}

func (r *reader) isAtEnd() bool { return r.next == len(r.tokens) }

// fail ends the reading at the next token.
func (r *reader) fail(e api.Errno) { panic(failure{e, r.tokens[r.next].At}) }

// wrong ends the reading at a token that cannot stand there, or that is missing.
func (r *reader) wrong() {
	if r.isAtEnd() {
		panic(failure{api.ErrEnd, r.length})
	}
	r.fail(api.ErrSyntax)
}

// enter begins a value, and leave ends it. Without a token there is none, however deep it would be.
func (r *reader) enter() {
	r.depth++
	if r.isAtEnd() {
		r.wrong()
	}
	if r.depth > api.MaxDepth {
		r.fail(api.ErrLarge)
	}
}

func (r *reader) leave() { r.depth-- }

func (r *reader) sees(text string) bool { return !r.isAtEnd() && r.tokens[r.next].Text == text }

func (r *reader) seesKind(kind int) bool { return !r.isAtEnd() && r.tokens[r.next].Kind == kind }

// takes reads a token if it is the next one.
func (r *reader) takes(text string) bool {
	if !r.sees(text) {
		return false
	}
	r.next++
	return true
}

// must reads tokens that must stand there.
func (r *reader) must(texts ...string) {
	for _, text := range texts {
		if !r.takes(text) {
			r.wrong()
		}
	}
}

// token reads a token of a kind.
func (r *reader) token(kind int) string {
	if !r.seesKind(kind) {
		r.wrong()
	}
	text := r.tokens[r.next].Text
	r.next++
	return text
}

// name reads a name that is known.
func (r *reader) name(isKnown func(string) bool) string {
	if !r.seesKind(api.TokenName) || !isKnown(r.tokens[r.next].Text) {
		r.wrong()
	}
	return r.token(api.TokenName)
}

// number reads a number with or without a sign.
func (r *reader) number() int {
	if r.takes("-") {
		return -r.digits()
	}
	return r.digits()
}

func (r *reader) digits() int {
	// Numbers that are too great are no tokens, so that there is no error.
	n, _ := strconv.Atoi(r.token(api.TokenNumber))
	return n
}
