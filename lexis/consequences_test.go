package lexis_test

import (
	"math/rand"
	"slices"
	"strings"
	"testing"

	"examiner/api"
	"examiner/lexis"
)

// wantBack is P1.5: what JoinedText returns is read as the same tokens.
func wantBack(t *testing.T, lang int, l []api.Token) {
	t.Helper()
	s, e := lexis.JoinedText(lang, l)
	if e == api.ErrLarge {
		return
	}
	wantErr(t, s, e, api.OK)
	back, _, e := lexis.TokensOf(lang, s)
	if e != api.OK || !slices.Equal(withoutPlaces(back), withoutPlaces(l)) {
		t.Errorf("%s %v: written %q, read %v, %d", langNames[lang], l, s, back, e)
	}
}

// P1.5: all lists of three tokens.
func TestBackOfTriples(t *testing.T) {
	for _, lang := range languages {
		var tokens []api.Token
		for _, s := range someTokens(t, lang) {
			tokens = append(tokens, single(t, lang, s))
		}
		for _, a := range tokens {
			for _, b := range tokens {
				for _, c := range tokens {
					wantBack(t, lang, []api.Token{a, b, c})
				}
			}
		}
	}
}

// P1.5: longer lists of symbols, of which most could run together.
func TestBackOfSymbols(t *testing.T) {
	r := rand.New(rand.NewSource(5))
	for _, lang := range languages {
		symbols, _ := lexis.SymbolsOf(lang)
		for range 2000 {
			var l []api.Token
			for range 1 + r.Intn(12) {
				l = append(l, api.Token{Kind: api.TokenSymbol, Text: symbols[r.Intn(len(symbols))]})
			}
			wantBack(t, lang, l)
		}
	}
}

// blanked returns a text with blanks in the place of comments.
func blanked(s string, comments []api.Stretch) string {
	b := []byte(s)
	for _, c := range comments {
		for at := c.From; at < c.To; at++ {
			if b[at] != '\n' {
				b[at] = ' '
			}
		}
	}
	return string(b)
}

// wantConsequences are P1.5, P1.6 and P1.7 of a text that may have faults.
func wantConsequences(t *testing.T, lang int, s string) bool {
	t.Helper()
	tokens, at, e := lexis.TokensOf(lang, s)
	comments, place, f := lexis.CommentsOf(lang, s)
	if at != place || e != f {
		t.Errorf("%s %q: tokens %d, %d, comments %d, %d", langNames[lang], s, at, e, place, f)
	}
	if e != api.OK {
		return false
	}
	blank := blanked(s, comments)
	again, _, e := lexis.TokensOf(lang, blank)
	if e != api.OK || !slices.Equal(again, tokens) {
		t.Errorf("P1.6 %s %q: %v, blanked %q: %v, %d", langNames[lang], s, tokens, blank, again, e)
	}
	rest := []byte(blank)
	end := 0
	for _, k := range tokens {
		if k.At < end || !strings.HasPrefix(s[k.At:], k.Text) {
			t.Errorf("P1.7 %s %q: %v does not stand there", langNames[lang], s, k)
			return true
		}
		end = k.At + len(k.Text)
		copy(rest[k.At:end], strings.Repeat(" ", len(k.Text)))
	}
	if between := strings.Trim(string(rest), " \t\n"); between != "" {
		t.Errorf("P1.7 %s %q: %q is between tokens", langNames[lang], s, between)
	}
	wantBack(t, lang, tokens)
	return true
}

// P1.5 to P1.7: all short texts over characters that begin or end something.
func TestConsequencesOfShortTexts(t *testing.T) {
	for _, alphabet := range []string{"a0-/*\n", "a-.:=[", "]['\"B1", "/*-<>\n"} {
		for _, lang := range languages {
			right := 0
			eachShortText(alphabet, 6, func(s string) {
				if wantConsequences(t, lang, s) {
					right++
				}
			})
			if right < 500 {
				t.Errorf("%s %q: only %d texts are right", langNames[lang], alphabet, right)
			}
		}
	}
}

// P1.5 to P1.7: longer texts.
func TestConsequencesOfLongerTexts(t *testing.T) {
	r := rand.New(rand.NewSource(1))
	for _, lang := range languages {
		right := 0
		for n := range 20000 {
			if wantConsequences(t, lang, randomText(r, 1+n%20)) {
				right++
			}
		}
		if right < 500 {
			t.Errorf("%s: only %d texts are right", langNames[lang], right)
		}
	}
}

// P1.6: comments, written out.
func TestCommentsMeanNothing(t *testing.T) {
	for _, x := range []struct {
		lang       int
		text, want string
	}{
		{api.LangAsn, "a/* b */c", "a       c"}, {api.LangAsn, "a-b--c--d", "a-b     d"}, {api.LangAsn, "1--\n--a--2", "1  \n     2"}, {api.LangAsn, "a/* \n /* b */ */-/* */-", "a   \n           -     -"},
		{api.LangTtcn, "a//b\nc", "a   \nc"}, {api.LangTtcn, "a/*\n*/.b", "a  \n  .b"}, {api.LangTtcn, "</**/<", "<    <"},
	} {
		comments, _, _ := lexis.CommentsOf(x.lang, x.text)
		if s := blanked(x.text, comments); s != x.want {
			t.Errorf("%q: blanked %q, want %q", x.text, s, x.want)
		}
		if a, b := tokensOf(t, x.lang, x.text), tokensOf(t, x.lang, x.want); !slices.Equal(a, b) {
			t.Errorf("%q: %v, without comments %v", x.text, a, b)
		}
	}
}
