package lexis_test

import (
	"slices"
	"strings"
	"testing"

	"examiner/api"
	"examiner/lexis"
)

// The lists as the chapter has them.
const (
	docAsnWords    = "ALL APPLICATION AUTOMATIC BEGIN BIT BOOLEAN BY CHOICE CLASS COMPONENT COMPONENTS DEFAULT DEFINITIONS END ENUMERATED EXCEPT EXPLICIT EXPORTS FALSE FROM IA5String IDENTIFIER IMPLICIT IMPORTS INTEGER INTERSECTION MAX MIN NULL NumericString OBJECT OCTET OF OPTIONAL PRIVATE PrintableString REAL SEQUENCE SET SIZE STRING SYNTAX TAGS TRUE UNION UNIQUE UNIVERSAL VisibleString WITH"
	docTtcnWords   = "action activate alive all alt altstep and and4b any anytype bitstring boolean break call catch charstring check clear complement component connect const control create deactivate default disconnect display do done else encode enumerated error except exception execute extends extension external fail false float for friend from function getcall getreply getverdict goto group halt hexstring if ifpresent import in inconc infinity inout integer interleave kill killed label language length log map match message mixed mod modifies module modulepar mtc noblock none not not4b nowait null objid octetstring of omit on optional or or4b out override param pass pattern permutation port present private procedure public raise read receive record recursive rem repeat reply return running runs select self send sender set setverdict signature start stop subset superset system template testcase timeout timer to trigger true type union universal unmap value valueof var variant verdicttype while with xor xor4b"
	docAsnSymbols  = "::= .. ... [[ ]] { } ( ) [ ] , ; : . | ^ < & @ - = ! *"
	docTtcnSymbols = ":= .. -> => == != <= >= << >> { } ( ) [ ] , ; : . ? * + - / & < > @ ! |"
)

// P1.3: the words and the symbols are those of the chapter, ascending.
func TestWordsAndSymbols(t *testing.T) {
	for _, x := range []struct {
		what string
		list func(int) ([]string, api.Errno)
		lang int
		doc  string
	}{
		{"words", lexis.WordsOf, api.LangAsn, docAsnWords}, {"words", lexis.WordsOf, api.LangTtcn, docTtcnWords},
		{"symbols", lexis.SymbolsOf, api.LangAsn, docAsnSymbols}, {"symbols", lexis.SymbolsOf, api.LangTtcn, docTtcnSymbols},
	} {
		want := strings.Fields(x.doc)
		slices.Sort(want)
		got, e := x.list(x.lang)
		if !slices.Equal(got, want) || e != api.OK {
			t.Errorf("%s of %s: %v, %d, want %v", x.what, langNames[x.lang], got, e, want)
		}
		for i := range got {
			if i > 0 && got[i-1] >= got[i] {
				t.Errorf("%s of %s: %q is not less than %q", x.what, langNames[x.lang], got[i-1], got[i])
			}
		}
	}
}

// P1.3: each symbol is one token of its language.
func TestSymbolsAsTokens(t *testing.T) {
	for _, lang := range languages {
		symbols, _ := lexis.SymbolsOf(lang)
		for _, s := range symbols {
			if k := single(t, lang, s); k.Kind != api.TokenSymbol || k.Text != s {
				t.Errorf("%s %q: %v", langNames[lang], s, k)
			}
		}
	}
}

// P1.3: the error of the language.
func TestWordsOfNoLanguage(t *testing.T) {
	for _, lang := range notLanguages {
		words, e := lexis.WordsOf(lang)
		if len(words) != 0 || e != api.ErrKind {
			t.Errorf("WordsOf(%d): %v, %d", lang, words, e)
		}
		symbols, e := lexis.SymbolsOf(lang)
		if len(symbols) != 0 || e != api.ErrKind {
			t.Errorf("SymbolsOf(%d): %v, %d", lang, symbols, e)
		}
		for _, s := range []string{"a", "", "\x00", strings.Repeat("a", 99)} {
			if is, e := lexis.IsNameOf(lang, s); is || e != api.ErrKind {
				t.Errorf("IsNameOf(%d, %q): %t, %d", lang, s, is, e)
			}
		}
	}
}

// P1.3: what is a name, and what is none.
func TestNames(t *testing.T) {
	for _, x := range []struct {
		text      string
		asn, ttcn bool
	}{
		{"a", true, true}, {"Z", true, true}, {"aB9", true, true}, {"a-b", true, false}, {"a-1-c", true, false}, {"a_b", false, true}, {"a_", false, true}, {"a__b", false, true}, {"a-b_c", false, false},
		{"", false, false}, {"1", false, false}, {"1a", false, false}, {"_a", false, false}, {"-a", false, false}, {"a-", false, false}, {"a--b", false, false},
		{"a b", false, false}, {" a", false, false}, {"a ", false, false}, {"a.b", false, false}, {"a\x00", false, false}, {"é", false, false}, {"aé", false, false}, {"\"a\"", false, false},
		{"INTEGER", false, true}, {"integer", true, false}, {"Integer", true, true}, {"SET", false, true}, {"set", true, false}, {"INTEGERS", true, true}, {"integers", true, true}, {"TEGER", true, true}, {"BIT STRING", false, false}, {"and and4b", false, false},
		{strings.Repeat("a", api.MaxName), true, true}, {strings.Repeat("a", api.MaxName+1), false, false}, {strings.Repeat("a", 1<<20), false, false},
	} {
		for lang, want := range map[int]bool{api.LangAsn: x.asn, api.LangTtcn: x.ttcn} {
			if is, e := lexis.IsNameOf(lang, x.text); is != want || e != api.OK {
				t.Errorf("IsNameOf(%s, %.40q): %t, %d, want %t", langNames[lang], x.text, is, e, want)
			}
		}
	}
}

// P1.3: which characters may begin a name, and which may go on with it.
func TestCharactersOfNames(t *testing.T) {
	for c := range 256 {
		one := string([]byte{byte(c)})
		letter := strings.Contains("abcdefghijklmnopqrstuvwxyzABCDEFGHIJKLMNOPQRSTUVWXYZ", one)
		digit := strings.Contains("0123456789", one)
		for _, lang := range languages {
			between := map[int]string{api.LangAsn: "-", api.LangTtcn: "_"}[lang]
			if is, _ := lexis.IsNameOf(lang, one); is != letter {
				t.Errorf("IsNameOf(%s, %q): %t", langNames[lang], one, is)
			}
			if is, _ := lexis.IsNameOf(lang, "q"+one+"1"); is != (letter || digit || one == between) {
				t.Errorf("IsNameOf(%s, %q): %t", langNames[lang], "q"+one+"1", is)
			}
		}
	}
}

// P1.3: a string is a name exactly if it is read as one.
func TestNamesAsTokens(t *testing.T) {
	for _, lang := range languages {
		eachShortText("aZ0-_ .", 5, func(s string) {
			l, _, e := lexis.TokensOf(lang, s)
			want := e == api.OK && len(l) == 1 && l[0].Kind == api.TokenName && l[0].Text == s
			if is, _ := lexis.IsNameOf(lang, s); is != want {
				t.Errorf("IsNameOf(%s, %q): %t, want %t", langNames[lang], s, is, want)
			}
		})
	}
}
