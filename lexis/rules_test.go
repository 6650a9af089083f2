package lexis_test

import (
	"math/rand"
	"reflect"
	"slices"
	"testing"

	"examiner/api"
	"examiner/lexis"
)

// oddNumbers are numbers at the ends of what is permitted, and beyond.
var oddNumbers = []int{-1 << 63, -1, 0, 1, api.Languages, api.TokenKinds, api.MaxText, api.MaxText + 1, 1<<63 - 1}

// called returns the results of all functions for some arguments.
func called(lang int, s string, n int) []any {
	var out []any
	add := func(l ...any) { out = append(out, l...) }
	lines, e := lexis.CheckText(s)
	add(lines, e)
	tokens, at, e := lexis.TokensOf(lang, s)
	add(tokens, at, e)
	comments, at, e := lexis.CommentsOf(lang, s)
	add(comments, at, e)
	line, column, e := lexis.PlaceOf(s, n)
	add(line, column, e)
	words, e := lexis.WordsOf(lang)
	add(words, e)
	symbols, e := lexis.SymbolsOf(lang)
	add(symbols, e)
	add(lexis.CheckToken(lang, api.Token{Kind: n, Text: s, At: n}))
	text, e := lexis.JoinedText(lang, append(tokens, api.Token{Kind: n, Text: s, At: n}))
	add(text, e)
	is, e := lexis.IsNameOf(lang, s)
	add(is, e)
	return out
}

// R2, R4: every call returns, and returns the same again.
func TestAnyArguments(t *testing.T) {
	r := rand.New(rand.NewSource(2))
	for n := range 3000 {
		s := randomText(r, n%12)
		if n%3 == 0 {
			raw := make([]byte, n%40)
			r.Read(raw)
			s = string(raw)
		}
		lang := oddNumbers[n%len(oddNumbers)]
		number := oddNumbers[r.Intn(len(oddNumbers))]
		if a, b := called(lang, s, number), called(lang, s, number); !reflect.DeepEqual(a, b) {
			t.Errorf("%d, %q, %d: %v, then %v", lang, s, number, a, b)
		}
	}
}

// R3: arguments are left as they are, and nothing of a result comes back with a later one.
func TestMemory(t *testing.T) {
	for _, lang := range languages {
		for _, list := range []func(int) ([]string, api.Errno){lexis.WordsOf, lexis.SymbolsOf} {
			first, _ := list(lang)
			want := slices.Clone(first)
			for i := range first {
				first[i] = "spoilt"
			}
			if again, _ := list(lang); !slices.Equal(again, want) {
				t.Errorf("%s: a list keeps what was written into it", langNames[lang])
			}
		}
		tokens := tokensOf(t, lang, "a ( b ) , 1")
		want := slices.Clone(tokens)
		lexis.JoinedText(lang, tokens)
		if !slices.Equal(tokens, want) {
			t.Errorf("%s: JoinedText changes its tokens", langNames[lang])
		}
		tokens[0].Text = "spoilt"
		if again := tokensOf(t, lang, "a ( b ) , 1"); !slices.Equal(again, want) {
			t.Errorf("%s: TokensOf keeps what was written into its result", langNames[lang])
		}
	}
}

// R5: nil is a list without tokens.
func TestNoTokens(t *testing.T) {
	for _, l := range [][]api.Token{nil, {}} {
		if s, e := lexis.JoinedText(api.LangAsn, l); s != "" || e != api.OK {
			t.Errorf("JoinedText of nothing: %q, %d", s, e)
		}
	}
}

// R6: letters and digits are those of ASCII alone.
func TestLettersOfAscii(t *testing.T) {
	for _, s := range []string{"é", "Ω", "٣", "ａ", "\u00a0"} {
		if is, e := lexis.IsNameOf(api.LangTtcn, s); is || e != api.OK {
			t.Errorf("IsNameOf(%q): %t, %d", s, is, e)
		}
		wantFault(t, api.LangTtcn, "a "+s, 2, api.ErrForm)
	}
}
