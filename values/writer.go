package values

import (
	"examiner/api"
	"examiner/lexis"
	"examiner/notation"
)

// A writer collects the tokens of a text.
type writer struct{ tokens []api.Token }

// written returns the text of a value that fits its type.
func written(v api.Value) (string, api.Errno) {
	w := &writer{}
	if end := attempt(func() { w.value(v) }); end.e != api.OK {
		return "", end.e
	}
	return lexis.JoinedText(api.LangAsn, w.tokens)
}

// value writes a value. Only its type tells apart some values with the same text.
func (w *writer) value(v api.Value) {
	switch v.Kind {
	case api.ValueRecord, api.ValueList, api.ValueBag:
		w.enclosed(v)
	case api.ValueUnion:
		w.name(v.Names[0], isSmall)
		w.symbol(":")
		w.value(v.Items[0])
	case api.ValueOpen:
		if v.S != "" {
			w.name(v.S, isCapital)
			w.symbol(":")
		}
		w.value(v.Items[0])
	default:
		w.plain(v)
	}
}

// enclosed writes the items of a record, each behind its name, of a list or a bag.
func (w *writer) enclosed(v api.Value) {
	w.symbol("{")
	for i, item := range v.Items {
		if i > 0 {
			w.symbol(",")
		}
		if v.Kind == api.ValueRecord {
			w.name(v.Names[i], isSmall)
		}
		w.value(item)
	}
	w.symbol("}")
}

// plain writes a value that has the same text whatever its type is.
func (w *writer) plain(v api.Value) {
	text, e := notation.FormatPlain(v)
	if e != api.OK {
		panic(failure{e: e})
	}
	tokens, _, _ := lexis.TokensOf(api.LangAsn, text) // no error, since it was written as tokens
	w.tokens = append(w.tokens, tokens...)
}

// name writes a name that begins with the kind of letter that must stand there.
func (w *writer) name(name string, begins func(byte) bool) {
	if is, _ := lexis.IsNameOf(api.LangAsn, name); !is || !begins(name[0]) {
		panic(failure{e: api.ErrRefused})
	}
	w.put(api.TokenName, name)
}

func isSmall(letter byte) bool   { return letter >= 'a' }
func isCapital(letter byte) bool { return letter <= 'Z' }

func (w *writer) symbol(text string) { w.put(api.TokenSymbol, text) }

func (w *writer) put(kind int, text string) {
	w.tokens = append(w.tokens, api.Token{Kind: kind, Text: text})
}
