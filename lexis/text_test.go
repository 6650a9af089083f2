package lexis_test

import (
	"strings"
	"testing"

	"examiner/api"
	"examiner/lexis"
)

// P1.1: lines are counted by their line feeds.
func TestLinesOfTexts(t *testing.T) {
	for _, x := range []struct {
		text  string
		lines int
	}{
		{"", 1}, {"a", 1}, {"\n", 2}, {"a\n", 2}, {"\n\n", 3}, {"ab\nc", 2}, {"\t ~\n", 2}, {`a\nb`, 1},
		{strings.Repeat("\n", api.MaxText), api.MaxText + 1},
	} {
		if lines, e := lexis.CheckText(x.text); lines != x.lines || e != api.OK {
			t.Errorf("CheckText(%.20q): %d, %d, want %d, OK", x.text, lines, e, x.lines)
		}
	}
}

// P1.1: each character is a line feed, a tab or from 32 to 126.
func TestCharactersOfTexts(t *testing.T) {
	for c := range 256 {
		text := "ab" + string([]byte{byte(c)})
		at, e := lexis.CheckText(text)
		permitted := c == 9 || c == 10 || c >= 32 && c <= 126
		if permitted != (e == api.OK) {
			t.Errorf("character %d: error %d", c, e)
		}
		if !permitted && (at != 2 || e != api.ErrForm) {
			t.Errorf("character %d: place %d, error %d, want 2, ErrForm", c, at, e)
		}
	}
}

// P1.1: the first of several wrong characters is told, and the length comes before all of them.
func TestFaultsOfTexts(t *testing.T) {
	for _, x := range []struct {
		text string
		at   int
		want api.Errno
	}{
		{"\r", 0, api.ErrForm}, {"a\x00\x01", 1, api.ErrForm}, {"a\nb\x7f", 3, api.ErrForm}, {"é", 0, api.ErrForm}, {"ab\xff", 2, api.ErrForm},
		{strings.Repeat("a", api.MaxText), 1, api.OK},
		{strings.Repeat("a", api.MaxText-1) + "\x00", api.MaxText - 1, api.ErrForm},
		{strings.Repeat("a", api.MaxText+1), 0, api.ErrLarge},
		{strings.Repeat("\x00", api.MaxText+1), 0, api.ErrLarge},
	} {
		if at, e := lexis.CheckText(x.text); at != x.at || e != x.want {
			t.Errorf("CheckText(%.20q): %d, %d, want %d, %d", x.text, at, e, x.at, x.want)
		}
	}
}

// P1.1: PlaceOf counts lines and columns from 1 on, and takes the end of the text, too.
func TestPlaces(t *testing.T) {
	for _, x := range []struct {
		text             string
		at, line, column int
	}{
		{"ab\nc", 3, 2, 1}, {"ab\nc", 0, 1, 1}, {"ab\nc", 1, 1, 2}, {"ab\nc", 2, 1, 3}, {"ab\nc", 4, 2, 2},
		{"", 0, 1, 1}, {"\n", 0, 1, 1}, {"\n", 1, 2, 1}, {"\n\n\tx", 3, 3, 2}, {"\n\n\tx", 2, 3, 1},
		{strings.Repeat("a", api.MaxText), api.MaxText, 1, api.MaxText + 1},
	} {
		line, column, e := lexis.PlaceOf(x.text, x.at)
		if line != x.line || column != x.column || e != api.OK {
			t.Errorf("PlaceOf(%.20q, %d): %d, %d, %d, want %d, %d, OK", x.text, x.at, line, column, e, x.line, x.column)
		}
	}
}

// P1.1: the places of a text are those that one meets going through it.
func TestPlacesInOrder(t *testing.T) {
	text := "one\n\ntwo three\n\tfour\n"
	line, column := 1, 1
	for at := range len(text) + 1 {
		a, b, e := lexis.PlaceOf(text, at)
		if a != line || b != column || e != api.OK {
			t.Errorf("PlaceOf(.., %d): %d, %d, %d, want %d, %d, OK", at, a, b, e, line, column)
		}
		column++
		if at < len(text) && text[at] == '\n' {
			line, column = line+1, 1
		}
	}
}

// P1.1, R9: the errors of the text come before those of the place.
func TestFaultsOfPlaces(t *testing.T) {
	for _, x := range []struct {
		text string
		at   int
		want api.Errno
	}{
		{"ab", 3, api.ErrRange}, {"ab", -1, api.ErrRange}, {"", 1, api.ErrRange}, {"ab", 1 << 60, api.ErrRange}, {"ab", -1 << 63, api.ErrRange},
		{"a\x00", 9, api.ErrForm}, {"a\x00", 0, api.ErrForm},
		{strings.Repeat("a", api.MaxText+1), 0, api.ErrLarge}, {strings.Repeat("a", api.MaxText+1), -1, api.ErrLarge},
	} {
		if line, column, e := lexis.PlaceOf(x.text, x.at); line != 0 || column != 0 || e != x.want {
			t.Errorf("PlaceOf(%.20q, %d): %d, %d, %d, want 0, 0, %d", x.text, x.at, line, column, e, x.want)
		}
	}
}
