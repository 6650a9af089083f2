package notation

import (
	"strconv"
	"strings"

	"examiner/api"
	"examiner/lexis"
)

// A writer collects the tokens of a text, line by line.
type writer struct{ lines [][]api.Token }

// written returns the text of what is written, unless that is refused.
func written(write func(*writer)) (string, api.Errno) {
	w := &writer{}
	w.line()
	if end := attempt(func() { write(w) }); end.e != api.OK {
		return "", end.e
	}
	return w.text()
}

// text returns the lines in canonical spacing.
func (w *writer) text() (string, api.Errno) {
	tokens := 0
	var texts []string
	for _, l := range w.lines {
		text, e := lexis.JoinedText(api.LangAsn, l)
		if e != api.OK {
			return "", e
		}
		tokens += len(l)
		texts = append(texts, text)
	}
	text := strings.Join(texts, "\n")
	if tokens > api.MaxTokens || len(text) > api.MaxText {
		return "", api.ErrLarge
	}
	return text, api.OK
}

// refuse ends the writing of what has no text.
func (w *writer) refuse() { panic(failure{e: api.ErrRefused}) }

// line begins another line.
func (w *writer) line() { w.lines = append(w.lines, nil) }

func (w *writer) put(kind int, text string) {
	last := len(w.lines) - 1
	w.lines[last] = append(w.lines[last], api.Token{Kind: kind, Text: text})
}

// fixed writes reserved words and symbols.
func (w *writer) fixed(texts ...string) {
	for _, text := range texts {
		if isLetter(text[0]) {
			w.put(api.TokenWord, text)
		} else {
			w.put(api.TokenSymbol, text)
		}
	}
}

// name writes a name, if it is one of the kind that must stand there.
func (w *writer) name(name string, fits func(string) bool) {
	if !fits(name) {
		w.refuse()
	}
	w.put(api.TokenName, name)
}

func (w *writer) smallName(name string)   { w.name(name, isSmall) }
func (w *writer) capitalName(name string) { w.name(name, isCapital) }
func (w *writer) anyName(name string)     { w.name(name, isAsnName) }

func (w *writer) number(n int) {
	if !isInteger(n) {
		w.refuse()
	}
	if n < 0 {
		w.fixed("-")
		n = -n
	}
	w.put(api.TokenNumber, strconv.Itoa(n))
}

// chars writes a string between quotation marks.
func (w *writer) chars(s string) {
	if !hasOnly(s, ' ', '~') || len(s)+strings.Count(s, `"`) > api.MaxString {
		w.refuse()
	}
	w.put(api.TokenChars, `"`+strings.ReplaceAll(s, `"`, `""`)+`"`)
}

func (w *writer) bits(s string) {
	if !isBits(s) || len(s) > api.MaxString {
		w.refuse()
	}
	w.put(api.TokenBits, "'"+s+"'B")
}

func (w *writer) octets(s string) {
	const digits = "0123456789ABCDEF"
	if 2*len(s) > api.MaxString {
		w.refuse()
	}
	text := "'"
	for at := range len(s) {
		text += string([]byte{digits[s[at]>>4], digits[s[at]&15]})
	}
	w.put(api.TokenOctets, text+"'H")
}

// writeList writes items with a symbol between each two of them.
func writeList[T any](w *writer, symbol string, items []T, write func(T)) {
	for i, item := range items {
		if i > 0 {
			w.fixed(symbol)
		}
		write(item)
	}
}
