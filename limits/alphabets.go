package limits

import "examiner/api"

// alphabetOf returns the bytes that strings of a type may have.
func alphabetOf(t api.Type) []api.Span {
	switch t.Kind {
	case api.TypeBits:
		return spansAt('0', '1')
	case api.TypeOctets:
		return spansAt(0, 255)
	}
	return charactersOf(t.Name)
}

// charactersOf returns the characters of a string type, or none.
func charactersOf(name string) []api.Span {
	switch name {
	case api.Numeric:
		return spansAt(' ', ' ', '0', '9')
	case api.Printable:
		return spansAt(' ', ' ', '\'', ')', '+', ':', '=', '=', '?', '?', 'A', 'Z', 'a', 'z')
	case api.Visible:
		return spansAt(' ', '~')
	case api.Ia5:
		return []api.Span{asciiCharacters()}
	}
	return nil
}

// spansAt returns spans by their ends.
func spansAt(ends ...int) []api.Span {
	var l []api.Span
	for i := 0; i < len(ends); i += 2 {
		l = append(l, api.Span{Low: ends[i], High: ends[i+1]})
	}
	return l
}
