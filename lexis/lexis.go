// Package lexis is chapter 1: tokens of ASN.1 and TTCN-3, comments, canonical spacing. See shared/doc/01-lexis.md.
package lexis

import "examiner/api"

// TokensOf returns the tokens of a text, or the place of the first fault.
func TokensOf(lang int, s string) ([]api.Token, int, api.Errno) {
	pieces, at, e := piecesOf(lang, s)
	if e != api.OK {
		return nil, at, e
	}
	var tokens []api.Token
	for _, p := range pieces {
		if p.isToken() {
			tokens = append(tokens, api.Token{Kind: p.kind, Text: s[p.from:p.to], At: p.from})
		}
	}
	return tokens, 0, api.OK
}

// CommentsOf returns the comments of a text, or the place of the first fault.
func CommentsOf(lang int, s string) ([]api.Stretch, int, api.Errno) {
	pieces, at, e := piecesOf(lang, s)
	if e != api.OK {
		return nil, at, e
	}
	var comments []api.Stretch
	for _, p := range pieces {
		if p.kind == pieceComment {
			comments = append(comments, api.Stretch{From: p.from, To: p.to})
		}
	}
	return comments, 0, api.OK
}

func isLanguage(lang int) bool { return lang >= 0 && lang < api.Languages }
