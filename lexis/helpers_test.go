package lexis_test

import (
	"math/rand"
	"strings"
	"testing"

	"examiner/api"
	"examiner/lexis"
)

var languages = []int{api.LangAsn, api.LangTtcn}

var langNames = map[int]string{api.LangAsn: "ASN.1", api.LangTtcn: "TTCN-3"}

// notLanguages are numbers that name no language.
var notLanguages = []int{-1, api.Languages, 1 << 40, -1 << 62}

// tokensOf fails the test unless a text has tokens.
func tokensOf(t *testing.T, lang int, s string) []api.Token {
	t.Helper()
	l, at, e := lexis.TokensOf(lang, s)
	if at != 0 || e != api.OK {
		t.Fatalf("TokensOf(%s, %q): place %d, error %d", langNames[lang], s, at, e)
	}
	return l
}

// wantFault says that a text has a fault at a place, for its tokens and its comments alike.
func wantFault(t *testing.T, lang int, s string, at int, want api.Errno) {
	t.Helper()
	l, n, e := lexis.TokensOf(lang, s)
	if len(l) != 0 || n != at || e != want {
		t.Errorf("TokensOf(%s, %.60q): %d tokens, place %d, error %d, want place %d, error %d", langNames[lang], s, len(l), n, e, at, want)
	}
	c, n, e := lexis.CommentsOf(lang, s)
	if len(c) != 0 || n != at || e != want {
		t.Errorf("CommentsOf(%s, %.60q): %d comments, place %d, error %d, want place %d, error %d", langNames[lang], s, len(c), n, e, at, want)
	}
}

func wantErr(t *testing.T, what string, e, want api.Errno) {
	t.Helper()
	if e != want {
		t.Errorf("%s: error %d, want %d", what, e, want)
	}
}

// withoutPlaces returns tokens at the place 0.
func withoutPlaces(l []api.Token) []api.Token {
	var out []api.Token
	for _, t := range l {
		t.At = 0
		out = append(out, t)
	}
	return out
}

// single returns the token that a text is.
func single(t *testing.T, lang int, s string) api.Token {
	t.Helper()
	l := tokensOf(t, lang, s)
	if len(l) != 1 {
		t.Fatalf("%q: %d tokens of %s", s, len(l), langNames[lang])
	}
	return l[0]
}

// someTokens are texts of tokens of each kind, all symbols among them.
func someTokens(t *testing.T, lang int) []string {
	t.Helper()
	symbols, e := lexis.SymbolsOf(lang)
	wantErr(t, "SymbolsOf", e, api.OK)
	common := []string{"a", "T1", "x", "B", "H", "O", "0", "7", "42", `""`, `"s"`, `""""`, "''B", "'01'B", `"--"`, `"/*"`}
	own := []string{"a-b", "a-1", "INTEGER", "SET", "'A'H", "''H"}
	if lang == api.LangTtcn {
		own = []string{"a_b", "a_", "integer", "not4b", "'A0'O", "''O"}
	}
	return append(append(symbols, common...), own...)
}

// eachShortText calls a function with all texts of at most a length over an alphabet.
func eachShortText(alphabet string, length int, visit func(string)) {
	visit("")
	if length == 0 {
		return
	}
	for _, c := range alphabet {
		eachShortText(alphabet, length-1, func(rest string) { visit(string(c) + rest) })
	}
}

// randomText returns a text of pieces of both languages, many of which are right.
func randomText(r *rand.Rand, pieces int) string {
	parts := []string{
		"a", "b1", "a-b", "a_b", "A", "INTEGER", "integer", "0", "7", "19", "'01'B", "'AB'H", "'AB'O", `"x"`, `"--"`, `"/*"`, `""""`, " ", " ", "\n", "\t",
		"-- c\n", "--c--", "// c\n", "/* c */", "/* /* c */ */", "/* \n */", "::=", ":=", "..", "...", ".", "-", "->", "(", ")", "[", "]", "{", "}", ",", ";", ":", "<", "&", "@", "=", "==", "!", "*", "|", "^", "?", "/", ">",
	}
	var text strings.Builder
	for range pieces {
		text.WriteString(parts[r.Intn(len(parts))])
	}
	return text.String()
}
