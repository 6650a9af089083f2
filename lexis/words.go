package lexis

import (
	"slices"
	"strings"

	"examiner/api"
)

// In the lists a blank stands before and behind each item, so that isListed finds whole items only.
const (
	asnWords = " ALL APPLICATION AUTOMATIC BEGIN BIT BOOLEAN BY CHOICE CLASS COMPONENT COMPONENTS DEFAULT DEFINITIONS" +
		" END ENUMERATED EXCEPT EXPLICIT EXPORTS FALSE FROM IA5String IDENTIFIER IMPLICIT IMPORTS INTEGER INTERSECTION" +
		" MAX MIN NULL NumericString OBJECT OCTET OF OPTIONAL PRIVATE PrintableString REAL SEQUENCE SET SIZE STRING" +
		" SYNTAX TAGS TRUE UNION UNIQUE UNIVERSAL VisibleString WITH "

	ttcnWords = " action activate alive all alt altstep and and4b any anytype bitstring boolean break call catch" +
		" charstring check clear complement component connect const control create deactivate default disconnect" +
		" display do done else encode enumerated error except exception execute extends extension external fail false" +
		" float for friend from function getcall getreply getverdict goto group halt hexstring if ifpresent import in" +
		" inconc infinity inout integer interleave kill killed label language length log map match message mixed mod" +
		" modifies module modulepar mtc noblock none not not4b nowait null objid octetstring of omit on optional or" +
		" or4b out override param pass pattern permutation port present private procedure public raise read receive" +
		" record recursive rem repeat reply return running runs select self send sender set setverdict signature start" +
		" stop subset superset system template testcase timeout timer to trigger true type union universal unmap value" +
		" valueof var variant verdicttype while with xor xor4b "

	asnSymbols  = " ::= .. ... [[ ]] { } ( ) [ ] , ; : . | ^ < & @ - = ! * "
	ttcnSymbols = " := .. -> => == != <= >= << >> { } ( ) [ ] , ; : . ? * + - / & < > @ ! | "

	longestSymbol = 3
)

// WordsOf returns the reserved words of a language.
func WordsOf(lang int) ([]string, api.Errno) {
	if !isLanguage(lang) {
		return nil, api.ErrKind
	}
	return ascending(wordList(lang)), api.OK
}

// SymbolsOf returns the symbols of a language.
func SymbolsOf(lang int) ([]string, api.Errno) {
	if !isLanguage(lang) {
		return nil, api.ErrKind
	}
	return ascending(symbolList(lang)), api.OK
}

// IsNameOf returns whether a string is a name of a language.
func IsNameOf(lang int, s string) (bool, api.Errno) {
	if !isLanguage(lang) {
		return false, api.ErrKind
	}
	if s == "" || len(s) > api.MaxName || !isLetter(s[0]) {
		return false, api.OK
	}
	return wordLength(lang, s) == len(s) && !isListed(wordList(lang), s), api.OK
}

func wordList(lang int) string {
	if lang == api.LangAsn {
		return asnWords
	}
	return ttcnWords
}

func symbolList(lang int) string {
	if lang == api.LangAsn {
		return asnSymbols
	}
	return ttcnSymbols
}

func ascending(list string) []string {
	items := strings.Fields(list)
	slices.Sort(items)
	return items
}

// isListed returns whether an item without blanks stands in a list.
func isListed(list, item string) bool { return strings.Contains(list, " "+item+" ") }
