package lexis_test

import (
	"slices"
	"strings"
	"testing"

	"examiner/api"
	"examiner/lexis"
)

// P1.2: the edge cases and the examples of the chapter, and what belongs to a token.
func TestTextsOfTokens(t *testing.T) {
	for _, x := range []struct {
		lang int
		text string
		want string // the tokens, with the sign ~ between
	}{
		{api.LangAsn, "", ""}, {api.LangTtcn, " \n\t", ""},
		{api.LangAsn, "T ::= INTEGER (0..7) -- small", "T~::=~INTEGER~(~0~..~7~)"},
		{api.LangTtcn, "p.receive(integer:?) -> value v;", "p~.~receive~(~integer~:~?~)~->~value~v~;"},
		{api.LangAsn, "a--b", "a"}, {api.LangAsn, "a-b", "a-b"}, {api.LangAsn, "a-", "a~-"},
		{api.LangTtcn, "a-b", "a~-~b"}, {api.LangTtcn, "a--b", "a~-~-~b"},
		{api.LangAsn, "1..2", "1~..~2"}, {api.LangTtcn, "1..2", "1~..~2"}, {api.LangAsn, "1...2", "1~...~2"}, {api.LangTtcn, "1...2", "1~..~.~2"},

		{api.LangAsn, "a-1-b-", "a-1-b~-"}, {api.LangAsn, "a- b", "a~-~b"}, {api.LangAsn, "a-)", "a~-~)"}, {api.LangAsn, "a-'0'B", "a~-~'0'B"}, {api.LangAsn, "-a", "-~a"},
		{api.LangTtcn, "a_b a_ a__1", "a_b~a_~a__1"}, {api.LangTtcn, "a1-2", "a1~-~2"},
		{api.LangAsn, "1a 0a", "1~a~0~a"}, {api.LangTtcn, "1a_", "1~a_"}, {api.LangAsn, "-0", "-~0"}, {api.LangAsn, "1-2", "1~-~2"},
		{api.LangAsn, `"a b"c`, `"a b"~c`}, {api.LangAsn, `""`, `""`}, {api.LangAsn, `""""`, `""""`}, {api.LangTtcn, `"a""b"`, `"a""b"`}, {api.LangTtcn, `"a" "b"`, `"a"~"b"`},
		{api.LangAsn, `"'' ''"`, `"'' ''"`}, {api.LangAsn, `"--" "/*"`, `"--"~"/*"`}, {api.LangTtcn, `"//" "/*"`, `"//"~"/*"`}, {api.LangTtcn, `"\"a`, `"\"~a`},
		{api.LangAsn, "'01'B''B'0F'H'ABC'H''H", "'01'B~''B~'0F'H~'ABC'H~''H"}, {api.LangTtcn, "'01'B''B'0F'O''O", "'01'B~''B~'0F'O~''O"}, {api.LangAsn, "'01'Bx", "'01'B~x"},
		{api.LangAsn, ":::==", ":~::=~="}, {api.LangAsn, "::", ":~:"}, {api.LangAsn, "....", "...~."}, {api.LangAsn, ".....", "...~.."}, {api.LangAsn, "[[[]]]", "[[~[~]]~]"}, {api.LangAsn, "a[b[1]]", "a~[~b~[~1~]]"}, {api.LangAsn, ". .", ".~."}, {api.LangAsn, "( )", "(~)"},
		{api.LangTtcn, "[[]]", "[~[~]~]"}, {api.LangTtcn, "a:=b==c!=d<=e>=f", "a~:=~b~==~c~!=~d~<=~e~>=~f"}, {api.LangTtcn, "<<>><@@>=>->", "<<~>>~<~@~@~>=~>~->"}, {api.LangTtcn, "===>", "==~=>"}, {api.LangTtcn, "<<<", "<<~<"}, {api.LangTtcn, "::=", ":~:="},
		{api.LangTtcn, "a/b", "a~/~b"}, {api.LangTtcn, "a*/b", "a~*~/~b"}, {api.LangAsn, "*", "*"},
	} {
		var texts []string
		for _, k := range tokensOf(t, x.lang, x.text) {
			texts = append(texts, k.Text)
		}
		if got := strings.Join(texts, "~"); got != x.want {
			t.Errorf("%s %q: %s, want %s", langNames[x.lang], x.text, got, x.want)
		}
	}
}

// P1.2: the kinds of tokens, with their places.
func TestKindsOfTokens(t *testing.T) {
	asn := []api.Token{
		{Kind: api.TokenName, Text: "a", At: 0}, {Kind: api.TokenWord, Text: "NULL", At: 2}, {Kind: api.TokenNumber, Text: "12", At: 7},
		{Kind: api.TokenChars, Text: `"s"`, At: 10}, {Kind: api.TokenBits, Text: "'1'B", At: 14}, {Kind: api.TokenOctets, Text: "'1'H", At: 19}, {Kind: api.TokenSymbol, Text: "::=", At: 24},
	}
	if l := tokensOf(t, api.LangAsn, `a NULL 12 "s" '1'B '1'H ::=`); !slices.Equal(l, asn) {
		t.Errorf("ASN.1: %v, want %v", l, asn)
	}
	ttcn := []api.Token{
		{Kind: api.TokenName, Text: "NULL", At: 0}, {Kind: api.TokenWord, Text: "null", At: 5}, {Kind: api.TokenNumber, Text: "0", At: 10},
		{Kind: api.TokenChars, Text: `"s"`, At: 12}, {Kind: api.TokenBits, Text: "'1'B", At: 15}, {Kind: api.TokenOctets, Text: "'12'O", At: 19}, {Kind: api.TokenSymbol, Text: ":=", At: 24},
	}
	if l := tokensOf(t, api.LangTtcn, `NULL null 0 "s"'1'B'12'O:=`); !slices.Equal(l, ttcn) {
		t.Errorf("TTCN-3: %v, want %v", l, ttcn)
	}
}

// P1.2: a reserved word is a word of its own language alone, and only as a whole.
func TestReservedWordsAsTokens(t *testing.T) {
	for _, lang := range languages {
		words, _ := lexis.WordsOf(lang)
		for _, w := range words {
			for text, kind := range map[string]int{w: api.TokenWord, w + "x": api.TokenName, "x" + w: api.TokenName} {
				if k := single(t, lang, text); k.Kind != kind && !slices.Contains(words, text) {
					t.Errorf("%s %q: kind %d, want %d", langNames[lang], text, k.Kind, kind)
				}
			}
		}
	}
	if k := single(t, api.LangAsn, "BIT-STRING"); k.Kind != api.TokenName {
		t.Errorf("BIT-STRING: kind %d", k.Kind)
	}
	if k := single(t, api.LangTtcn, "alt_"); k.Kind != api.TokenName {
		t.Errorf("alt_: kind %d", k.Kind)
	}
}

// P1.2: comments of both languages.
func TestComments(t *testing.T) {
	for _, x := range []struct {
		lang int
		text string
		want []api.Stretch
	}{
		{api.LangAsn, "", nil}, {api.LangAsn, "a - b", nil}, {api.LangTtcn, "a -- b / c * d", nil},
		{api.LangAsn, "T ::= INTEGER (0..7) -- small", []api.Stretch{{From: 21, To: 29}}},
		{api.LangAsn, "a--b\nc", []api.Stretch{{From: 1, To: 4}}}, {api.LangAsn, "-- a -- b --", []api.Stretch{{From: 0, To: 7}, {From: 10, To: 12}}},
		{api.LangAsn, "----a", []api.Stretch{{From: 0, To: 4}}}, {api.LangAsn, "---\n", []api.Stretch{{From: 0, To: 3}}}, {api.LangAsn, "---- --", []api.Stretch{{From: 0, To: 4}, {From: 5, To: 7}}}, {api.LangAsn, "---a--", []api.Stretch{{From: 0, To: 6}}},
		{api.LangAsn, "--\n--", []api.Stretch{{From: 0, To: 2}, {From: 3, To: 5}}}, {api.LangAsn, "-- /* \n a", []api.Stretch{{From: 0, To: 6}}},
		{api.LangAsn, "/**/a/* -- */", []api.Stretch{{From: 0, To: 4}, {From: 5, To: 13}}}, {api.LangAsn, "/* a /* b */ c */ d", []api.Stretch{{From: 0, To: 17}}}, {api.LangAsn, "/*/**/*/a", []api.Stretch{{From: 0, To: 8}}}, {api.LangAsn, "/*/ */", []api.Stretch{{From: 0, To: 6}}}, {api.LangAsn, "/*\n\t\"'*/", []api.Stretch{{From: 0, To: 8}}}, {api.LangAsn, "/* a /* b */ c /* d */ */*", []api.Stretch{{From: 0, To: 25}}},
		{api.LangTtcn, "a// b // c\nd", []api.Stretch{{From: 1, To: 10}}}, {api.LangTtcn, "//", []api.Stretch{{From: 0, To: 2}}}, {api.LangTtcn, "// /* \n a", []api.Stretch{{From: 0, To: 6}}},
		{api.LangTtcn, "/* a /* b */ c", []api.Stretch{{From: 0, To: 12}}}, {api.LangTtcn, "/*/*/", []api.Stretch{{From: 0, To: 5}}}, {api.LangTtcn, "/***/ /* // */", []api.Stretch{{From: 0, To: 5}, {From: 6, To: 14}}}, {api.LangTtcn, "a / /* b\n */ c", []api.Stretch{{From: 4, To: 12}}},
		{api.LangAsn, `"-- a --"`, nil}, {api.LangTtcn, `"// a" "/*"`, nil},
	} {
		c, at, e := lexis.CommentsOf(x.lang, x.text)
		if !slices.Equal(c, x.want) || at != 0 || e != api.OK {
			t.Errorf("%s %q: %v, %d, %d, want %v", langNames[x.lang], x.text, c, at, e, x.want)
		}
	}
}

// P1.2: the error of the language, then those of the text.
func TestFaultsBeforeTokens(t *testing.T) {
	long := strings.Repeat("a", api.MaxText+1)
	for _, lang := range notLanguages {
		for _, text := range []string{"a", "#", "\x00", long, `"`} {
			wantFault(t, lang, text, 0, api.ErrKind)
		}
	}
	for _, lang := range languages {
		wantFault(t, lang, long, 0, api.ErrLarge)
		wantFault(t, lang, "# \" \x00", 4, api.ErrForm)
		wantFault(t, lang, "/* \r */", 3, api.ErrForm)
		wantFault(t, lang, `"é"`, 1, api.ErrForm)
	}
}

// P1.2: errors that belong to both languages alike, with the place where something begins.
func TestFaultsOfTokens(t *testing.T) {
	for _, x := range []struct {
		text string
		at   int
		want api.Errno
	}{
		{"a /* b", 2, api.ErrOpen}, {"/*", 0, api.ErrOpen}, {"/*/", 0, api.ErrOpen}, {"a /* * /", 2, api.ErrOpen},
		{`"a`, 0, api.ErrOpen}, {` "`, 1, api.ErrOpen}, {"\"a\nb\"", 0, api.ErrOpen}, {"\"a\tb\"", 0, api.ErrOpen}, {`"""`, 0, api.ErrOpen}, {`a "b""`, 2, api.ErrOpen}, {"\"\"\"\n\"", 0, api.ErrOpen},
		{"'01", 0, api.ErrOpen}, {" '", 1, api.ErrOpen}, {"'0\n1'B", 0, api.ErrOpen}, {"'0\t1'B", 0, api.ErrOpen}, {"'xyz", 0, api.ErrOpen},
		{"x 007", 2, api.ErrSyntax}, {"00", 0, api.ErrSyntax}, {"01", 0, api.ErrSyntax}, {"a(-00)", 3, api.ErrSyntax},
		{"1152921504606846977", 0, api.ErrRange}, {"a 9999999999999999999", 2, api.ErrRange}, {"99999999999999999999999999", 0, api.ErrRange}, {"18446744073709551616", 0, api.ErrRange},
		{"a 'AB'B", 2, api.ErrSyntax}, {"'2'B", 0, api.ErrSyntax}, {"'01'", 0, api.ErrSyntax}, {"'01' B", 0, api.ErrSyntax}, {"'01'b", 0, api.ErrSyntax}, {"'01'X", 0, api.ErrSyntax}, {"'0 1'B", 0, api.ErrSyntax}, {"'' ''", 0, api.ErrSyntax}, {"''", 0, api.ErrSyntax}, {"''''B", 0, api.ErrSyntax}, {"'\"'B", 0, api.ErrSyntax},
		{"a # b", 2, api.ErrSyntax}, {"_a", 0, api.ErrSyntax}, {"a $", 2, api.ErrSyntax}, {"%", 0, api.ErrSyntax}, {"\\", 0, api.ErrSyntax}, {"`", 0, api.ErrSyntax}, {"~", 0, api.ErrSyntax},
	} {
		for _, lang := range languages {
			wantFault(t, lang, x.text, x.at, x.want)
		}
	}
}

// P1.2: errors of one of the languages.
func TestFaultsOfLanguages(t *testing.T) {
	for _, x := range []struct {
		lang int
		text string
		at   int
		want api.Errno
	}{
		{api.LangAsn, "/* /* */", 0, api.ErrOpen}, {api.LangAsn, "a /*/*/", 2, api.ErrOpen},
		{api.LangAsn, "'AB'O", 0, api.ErrSyntax}, {api.LangAsn, "'ab'H", 0, api.ErrSyntax}, {api.LangAsn, "'AG'H", 0, api.ErrSyntax}, {api.LangAsn, "'AB'h", 0, api.ErrSyntax},
		{api.LangTtcn, "'AB'H", 0, api.ErrSyntax}, {api.LangTtcn, "'ABC'O", 0, api.ErrSyntax}, {api.LangTtcn, "'ab'O", 0, api.ErrSyntax}, {api.LangTtcn, "'AG'O", 0, api.ErrSyntax}, {api.LangTtcn, "'AB'o", 0, api.ErrSyntax},
		{api.LangAsn, "a_b", 1, api.ErrSyntax}, {api.LangAsn, "a ? b", 2, api.ErrSyntax}, {api.LangAsn, "a/b", 1, api.ErrSyntax}, {api.LangAsn, "a // b", 2, api.ErrSyntax}, {api.LangAsn, "a+b", 1, api.ErrSyntax}, {api.LangAsn, "a>b", 1, api.ErrSyntax}, {api.LangAsn, "*/", 1, api.ErrSyntax},
		{api.LangTtcn, "a ^ b", 2, api.ErrSyntax}, {api.LangTtcn, "a = b", 2, api.ErrSyntax}, {api.LangTtcn, "a=-b", 1, api.ErrSyntax}, {api.LangTtcn, "T ::== I", 5, api.ErrSyntax},
	} {
		wantFault(t, x.lang, x.text, x.at, x.want)
	}
}

// P1.2: the lengths of names, numbers, strings, bits and octets: at the limit, and one beyond.
func TestLimitsOfTokens(t *testing.T) {
	of := strings.Repeat
	for _, lang := range languages {
		letter := map[int]string{api.LangAsn: "H", api.LangTtcn: "O"}[lang]
		for _, s := range []string{
			of("a", api.MaxName), of("aB1", 11)[:api.MaxName], "1152921504606846976", "0",
			`"` + of("a", api.MaxString) + `"`, `"` + of(`""`, api.MaxString/2) + `"`,
			"'" + of("1", api.MaxString) + "'B", "'" + of("F", api.MaxString) + "'" + letter,
		} {
			if k := single(t, lang, s); k.Text != s {
				t.Errorf("%s %q: %q", langNames[lang], s, k.Text)
			}
		}
		wantFault(t, lang, " "+of("a", api.MaxName+1), 1, api.ErrName)
		wantFault(t, lang, of("a", api.MaxText), 0, api.ErrName)
		wantFault(t, lang, "1152921504606846977", 0, api.ErrRange)
		wantFault(t, lang, of("9", api.MaxText), 0, api.ErrRange)
		wantFault(t, lang, ` "`+of("a", api.MaxString+1)+`"`, 1, api.ErrLarge)
		wantFault(t, lang, ` "`+of(`""`, api.MaxString/2)+`a"`, 1, api.ErrLarge)
		wantFault(t, lang, " '"+of("1", api.MaxString+1)+"'B", 1, api.ErrLarge)
		wantFault(t, lang, " '"+of("FF", api.MaxString/2+1)+"'"+letter, 1, api.ErrLarge)
	}
	if k := single(t, api.LangAsn, of("a-", 15)+"bc"); len(k.Text) != api.MaxName {
		t.Errorf("a name of %d characters", len(k.Text))
	}
	wantFault(t, api.LangAsn, of("a-", 16)+"b", 0, api.ErrName)
	if l := tokensOf(t, api.LangAsn, of("a", api.MaxName)+"-"); len(l) != 2 {
		t.Errorf("a name and a hyphen: %v", l)
	}
	wantFault(t, api.LangTtcn, of("a_", 16)+"_", 0, api.ErrName)
}

// P1.2: of several errors of one thing the first one is told.
func TestOrderOfFaults(t *testing.T) {
	of := strings.Repeat
	for _, lang := range languages {
		wantFault(t, lang, `"`+of("a", api.MaxString+1), 0, api.ErrOpen)
		wantFault(t, lang, `"`+of("a", api.MaxString+1)+"\t\"", 0, api.ErrOpen)
		wantFault(t, lang, "'"+of("x", api.MaxString+1), 0, api.ErrOpen)
		wantFault(t, lang, "'"+of("x", api.MaxString+1)+"'B", 0, api.ErrLarge)
		wantFault(t, lang, "'"+of("1", api.MaxString+1)+"'", 0, api.ErrLarge)
		wantFault(t, lang, "'"+of("1", api.MaxString+1)+"'X", 0, api.ErrLarge)
		wantFault(t, lang, "'"+of("x", api.MaxString)+"'B", 0, api.ErrSyntax)
		wantFault(t, lang, "0"+of("9", 30), 0, api.ErrSyntax)
	}
	wantFault(t, api.LangTtcn, "'"+of("F", api.MaxString+1)+"'O", 0, api.ErrLarge)
	wantFault(t, api.LangTtcn, "'"+of("F", api.MaxString-1)+"'O", 0, api.ErrSyntax)
}

// P1.2: tokens are found from the left to the right, and so are faults.
func TestFirstFault(t *testing.T) {
	for _, lang := range languages {
		wantFault(t, lang, "a # \"b", 2, api.ErrSyntax)
		wantFault(t, lang, "a 007 /* b", 2, api.ErrSyntax)
		wantFault(t, lang, "a \"b\n#", 2, api.ErrOpen)
	}
}

// P1.2: there may be MaxTokens tokens; any other error comes before that of more.
func TestManyTokens(t *testing.T) {
	for _, lang := range languages {
		full := strings.Repeat("a ", api.MaxTokens)
		if l := tokensOf(t, lang, full); len(l) != api.MaxTokens {
			t.Errorf("%d tokens", len(l))
		}
		if l := tokensOf(t, lang, full+"/* a */ /* b */"); len(l) != api.MaxTokens {
			t.Errorf("%d tokens", len(l))
		}
		wantFault(t, lang, full+"a", 0, api.ErrLarge)
		wantFault(t, lang, full+"a #", len(full)+2, api.ErrSyntax)
		wantFault(t, lang, strings.Repeat(";", api.MaxText), 0, api.ErrLarge)
	}
}
