package lexis_test

import (
	"slices"
	"strings"
	"testing"

	"examiner/api"
	"examiner/lexis"
)

// P1.4: tokens that are read as themselves are accepted at each place that a text may have.
func TestTokensAccepted(t *testing.T) {
	for _, lang := range languages {
		for _, s := range someTokens(t, lang) {
			k := single(t, lang, s)
			for _, at := range []int{0, 1, api.MaxText} {
				k.At = at
				wantErr(t, s, lexis.CheckToken(lang, k), api.OK)
			}
			for _, at := range []int{-1, api.MaxText + 1, 1 << 62, -1 << 63} {
				k.At = at
				wantErr(t, s, lexis.CheckToken(lang, k), api.ErrRange)
			}
		}
	}
}

// P1.4: tokens with each error.
func TestTokensRefused(t *testing.T) {
	for _, x := range []struct {
		lang, kind int
		text       string
		want       api.Errno
	}{
		{api.LangAsn, api.TokenName, "INTEGER", api.ErrSyntax}, {api.LangAsn, api.TokenWord, "integer", api.ErrSyntax}, {api.LangTtcn, api.TokenName, "integer", api.ErrSyntax}, {api.LangTtcn, api.TokenWord, "INTEGER", api.ErrSyntax},
		{api.LangAsn, api.TokenName, "", api.ErrSyntax}, {api.LangAsn, api.TokenSymbol, "", api.ErrSyntax}, {api.LangAsn, api.TokenName, " a", api.ErrSyntax}, {api.LangAsn, api.TokenName, "a ", api.ErrSyntax}, {api.LangAsn, api.TokenName, "a--b", api.ErrSyntax}, {api.LangTtcn, api.TokenName, "a/**/", api.ErrSyntax}, {api.LangTtcn, api.TokenName, "a-b", api.ErrSyntax}, {api.LangAsn, api.TokenName, "a b", api.ErrSyntax},
		{api.LangAsn, api.TokenNumber, "007", api.ErrSyntax}, {api.LangAsn, api.TokenNumber, "1152921504606846977", api.ErrSyntax}, {api.LangAsn, api.TokenNumber, "-1", api.ErrSyntax}, {api.LangAsn, api.TokenName, "1", api.ErrSyntax},
		{api.LangAsn, api.TokenChars, "a", api.ErrSyntax}, {api.LangAsn, api.TokenChars, `"a`, api.ErrSyntax}, {api.LangAsn, api.TokenChars, `"a"b"`, api.ErrSyntax}, {api.LangAsn, api.TokenChars, "\"\r\"", api.ErrSyntax},
		{api.LangAsn, api.TokenBits, "'AB'H", api.ErrSyntax}, {api.LangAsn, api.TokenOctets, "'01'B", api.ErrSyntax}, {api.LangTtcn, api.TokenOctets, "'A'O", api.ErrSyntax}, {api.LangTtcn, api.TokenOctets, "'AB'H", api.ErrSyntax}, {api.LangAsn, api.TokenOctets, "'AB'O", api.ErrSyntax},
		{api.LangAsn, api.TokenSymbol, ":=", api.ErrSyntax}, {api.LangTtcn, api.TokenSymbol, "...", api.ErrSyntax}, {api.LangTtcn, api.TokenSymbol, "[[", api.ErrSyntax}, {api.LangAsn, api.TokenSymbol, "?", api.ErrSyntax},
		{api.LangAsn, api.TokenName, strings.Repeat("a", api.MaxName+1), api.ErrSyntax}, {api.LangAsn, api.TokenName, strings.Repeat("a", api.MaxText+1), api.ErrSyntax},
		{api.LangAsn, -1, "a", api.ErrKind}, {api.LangAsn, api.TokenKinds, "a", api.ErrKind}, {api.LangTtcn, api.TokenKinds + 1, "", api.ErrKind}, {api.LangTtcn, 1 << 62, "a", api.ErrKind},
		{-1, api.TokenName, "a", api.ErrKind}, {api.Languages, api.TokenName, "a", api.ErrKind}, {api.Languages, -1, "", api.ErrKind}, {-1, api.TokenName, "", api.ErrKind},
	} {
		for _, at := range []int{0, -1} { // ErrRange comes after the others
			k := api.Token{Kind: x.kind, Text: x.text, At: at}
			if e := lexis.CheckToken(x.lang, k); e != x.want {
				t.Errorf("CheckToken(%d, %.40v): %d, want %d", x.lang, k, e, x.want)
			}
		}
	}
}

// P1.4: a token has one kind and no other.
func TestKindOfAToken(t *testing.T) {
	for _, lang := range languages {
		for _, s := range someTokens(t, lang) {
			right := single(t, lang, s).Kind
			for kind := range api.TokenKinds {
				want := api.ErrSyntax
				if kind == right {
					want = api.OK
				}
				wantErr(t, s, lexis.CheckToken(lang, api.Token{Kind: kind, Text: s}), want)
			}
		}
	}
}

// P1.4: canonical spacing.
func TestSpacing(t *testing.T) {
	for _, x := range []struct {
		lang       int
		text, want string
	}{
		{api.LangTtcn, "f( x ,y )", "f (x, y)"}, {api.LangTtcn, "a . b", "a.b"}, {api.LangAsn, "", ""}, {api.LangAsn, "a", "a"},
		{api.LangAsn, "T::=INTEGER(0 .. 7)--small", "T ::= INTEGER (0..7)"}, {api.LangAsn, "SEQUENCE{a BOOLEAN,...,[[c NULL]]}", "SEQUENCE {a BOOLEAN, ..., [[c NULL]]}"}, {api.LangAsn, "& f @ a ! b : c", "&f @a !b: c"}, {api.LangAsn, "a|b^c<d", "a | b ^ c < d"}, {api.LangAsn, "- 1", "- 1"}, {api.LangAsn, "a = b * c", "a = b * c"},
		{api.LangAsn, "( ( [ { } ] ) )", "(([{}]))"}, {api.LangAsn, "[ [ ] ]", "[ [] ]"}, {api.LangAsn, "[[ ]]", "[[]]"}, {api.LangAsn, "]] ]", "]]]"}, {api.LangAsn, "] ]]", "] ]]"}, {api.LangAsn, "[[ [", "[[["}, {api.LangAsn, "[ [[", "[ [["}, {api.LangAsn, "{ {", "{{"},
		{api.LangAsn, ". .", ". ."}, {api.LangAsn, ".. .", ".. ."}, {api.LangAsn, ". ..", ". .."}, {api.LangAsn, "... .", "...."}, {api.LangAsn, "... ..", "....."}, {api.LangAsn, "... ...", "... ..."}, {api.LangAsn, ": :", "::"}, {api.LangAsn, ": ::=", ": ::="}, {api.LangAsn, ": =", ": ="}, {api.LangAsn, "a: b", "a: b"},
		{api.LangTtcn, "[ [ ] ]", "[[]]"}, {api.LangTtcn, ". .", ". ."}, {api.LangTtcn, ".. .", "..."}, {api.LangTtcn, ". ..", ". .."}, {api.LangTtcn, ".. ..", "...."}, {api.LangTtcn, "! =>", "! =>"}, {api.LangTtcn, "! ==", "! =="}, {api.LangTtcn, "! !=", "!!="}, {api.LangTtcn, "! !", "!!"}, {api.LangTtcn, "@ >", "@>"}, {api.LangTtcn, "< @", "< @"}, {api.LangTtcn, "a:=b", "a := b"}, {api.LangTtcn, "( / *", "(/ *"}, {api.LangTtcn, "- > ->", "- > ->"}, {api.LangTtcn, "/ / *", "/ / *"},
		{api.LangTtcn, "p . receive ( integer : ? ) -> value v ;", "p.receive (integer: ?) -> value v;"}, {api.LangTtcn, `log("a","b")`, `log ("a", "b")`}, {api.LangTtcn, `"a"  "b"`, `"a" "b"`}, {api.LangTtcn, "1 .. 2", "1..2"}, {api.LangTtcn, "'0'B.x", "'0'B.x"}, {api.LangTtcn, "a & b", "a &b"}, {api.LangTtcn, "a := - 1 ;", "a := - 1;"},
	} {
		if s, e := lexis.JoinedText(x.lang, tokensOf(t, x.lang, x.text)); s != x.want || e != api.OK {
			t.Errorf("%s %q: %q, %d, want %q", langNames[x.lang], x.text, s, e, x.want)
		}
	}
}

// P1.4: between any two tokens the blank stands as the definition says.
func TestSpacingOfPairs(t *testing.T) {
	behind := strings.Fields("( [ { [[ . .. @ & !")
	before := strings.Fields(", ; ) ] } ]] . .. :")
	for _, lang := range languages {
		texts := someTokens(t, lang)
		for _, a := range texts {
			for _, b := range texts {
				pair := []api.Token{single(t, lang, a), single(t, lang, b)}
				want := a + " " + b
				l, _, e := lexis.TokensOf(lang, a+b)
				if (slices.Contains(behind, a) || slices.Contains(before, b)) && e == api.OK && slices.Equal(withoutPlaces(l), pair) {
					want = a + b
				}
				if s, e := lexis.JoinedText(lang, pair); s != want || e != api.OK {
					t.Errorf("%s %q, %q: %q, %d, want %q", langNames[lang], a, b, s, e, want)
				}
			}
		}
	}
}

// P1.4: places do not matter for the text.
func TestSpacingWithoutPlaces(t *testing.T) {
	l := tokensOf(t, api.LangTtcn, "f( x ,y )")
	slices.Reverse(l)
	slices.Reverse(l[:3])
	for i := range l {
		l[i].At = api.MaxText - i%2
	}
	a, e := lexis.JoinedText(api.LangTtcn, l)
	b, f := lexis.JoinedText(api.LangTtcn, withoutPlaces(l))
	if a != b || e != api.OK || f != api.OK {
		t.Errorf("%q, %d and %q, %d", a, e, b, f)
	}
}

// P1.4: the errors of JoinedText, in their order.
func TestJoinedTextFaults(t *testing.T) {
	good := api.Token{Kind: api.TokenName, Text: "a"}
	kind := api.Token{Kind: api.TokenKinds, Text: "#", At: -1}
	syntax := api.Token{Kind: api.TokenName, Text: "#", At: -1}
	place := api.Token{Kind: api.TokenName, Text: "a", At: -1}
	long := slices.Repeat([]api.Token{{Kind: api.TokenChars, Text: `"` + strings.Repeat("x", api.MaxString) + `"`}}, 40)
	for _, x := range []struct {
		what string
		lang int
		list []api.Token
		want api.Errno
	}{
		{"language", -1, nil, api.ErrKind}, {"language before number", api.Languages, slices.Repeat([]api.Token{kind}, api.MaxTokens+1), api.ErrKind}, {"language before token", api.Languages, []api.Token{syntax}, api.ErrKind},
		{"number", api.LangAsn, slices.Repeat([]api.Token{good}, api.MaxTokens+1), api.ErrLarge}, {"number before token", api.LangAsn, slices.Repeat([]api.Token{kind}, api.MaxTokens+1), api.ErrLarge}, {"largest number", api.LangAsn, slices.Repeat([]api.Token{good}, api.MaxTokens), api.OK},
		{"kind", api.LangAsn, []api.Token{good, kind}, api.ErrKind}, {"syntax", api.LangTtcn, []api.Token{good, syntax}, api.ErrSyntax}, {"place", api.LangTtcn, []api.Token{good, place, good}, api.ErrRange}, {"first of tokens", api.LangTtcn, []api.Token{good, place, kind}, api.ErrRange}, {"first of tokens", api.LangTtcn, []api.Token{syntax, kind}, api.ErrSyntax},
		{"length", api.LangAsn, long, api.ErrLarge}, {"token before length", api.LangAsn, append(slices.Clone(long), syntax), api.ErrSyntax},
	} {
		s, e := lexis.JoinedText(x.lang, x.list)
		wantErr(t, x.what, e, x.want)
		if e != api.OK && s != "" {
			t.Errorf("%s: a text beside an error", x.what)
		}
	}
}

// P1.4: a text of MaxText characters can be written, one more cannot.
func TestLongestJoinedText(t *testing.T) {
	list := slices.Repeat([]api.Token{{Kind: api.TokenChars, Text: `"` + strings.Repeat("x", 197) + `"`}}, 40) // with the blanks 7999 characters
	for _, x := range []struct {
		last string
		want api.Errno
	}{{";", api.OK}, {"..", api.ErrLarge}} {
		s, e := lexis.JoinedText(api.LangAsn, append(slices.Clone(list), api.Token{Kind: api.TokenSymbol, Text: x.last}))
		wantErr(t, x.last, e, x.want)
		if e == api.OK && len(s) != api.MaxText {
			t.Errorf("%d characters", len(s))
		}
	}
}
