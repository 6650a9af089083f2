package limits_test

import (
	"fmt"
	"strings"
	"testing"

	"examiner/api"
	"examiner/limits"
)

func wantChecked(t *testing.T, what string, y api.Type, want int, wantE api.Errno) {
	t.Helper()
	got, e := limits.CheckLimits(y)
	wantResult(t, "CheckLimits of "+what, got, e, want, wantE)
}

// P4.1: right constraints, with how many nodes they have.
func TestRightConstraints(t *testing.T) {
	for _, c := range []struct {
		text  string
		nodes int
	}{
		{"INTEGER", 0}, {"INTEGER (MIN..MAX)", 1}, {"INTEGER (0..7 | 9)", 3}, {"INTEGER (1..5, ..., 8)", 3}, {"INTEGER (1..5, ...)", 2}, {"INTEGER (1..9 EXCEPT (2 ^ 3))", 5},
		{"IA5String (\"abc\")", 1}, {"NumericString (\"0 9\")", 1}, {"PrintableString (\"aZ'?\")", 1}, {"VisibleString (\"~_\")", 1}, {"IA5String (\"\")", 1},
		{"IA5String (SIZE (2) | \"abc\")", 4}, {"IA5String (FROM (\"a\"..\"c\") EXCEPT \"a\")", 4}, {"IA5String (FROM (\"abc\" | \"x\"..\"z\"))", 4},
		{"IA5String (SIZE (0..200))", 2}, {"IA5String (SIZE (1 | 3 ^ 3) ^ FROM (\"a\"), ..., \"\")", 11},
		{"BIT STRING ('0110'B)", 1}, {"BIT STRING (''B | SIZE (200))", 4}, {"OCTET STRING ('00FF'H)", 1}, {"OCTET STRING (SIZE (1), ..., SIZE (2))", 5},
		{"SEQUENCE (SIZE (0..40)) OF NULL", 2}, {"SET (SIZE (2) EXCEPT SIZE (3)) OF NULL", 5}, {"SEQUENCE (SIZE (2), ...) OF INTEGER (5)", 3},
	} {
		wantChecked(t, c.text, typeOf(t, c.text), c.nodes, api.OK)
	}
	for i, y := range someTypes() {
		wantChecked(t, fmt.Sprintf("type %d without nodes", i), y, 0, api.OK)
	}
	long := strings.Repeat("1", api.MaxString)
	whole := span(-api.MaxInteger, api.MaxInteger)
	for i, y := range []api.Type{
		limited(api.TypeInt, whole), limited(api.TypeInt, marker(whole, span(0, 0))),
		limited(api.TypeChars, text(long)), limited(api.TypeBits, text(long)), limited(api.TypeOctets, text(long)), limited(api.TypeChars, from(text(long))),
		limited(api.TypeOctets, text("\x00\x80\xff")), limited(api.TypeChars, text("\x00\x7f")),
		limited(api.TypeChars, from(union(span(0, 127), text("\x00\x7f")))), stringType(api.Numeric, from(text("abc"))), stringType(api.Numeric, from(span(0, 127))),
	} {
		wantChecked(t, fmt.Sprintf("type %d with an edge", i), y, len(y.Limits), api.OK)
	}
}

// P4.1: the error of the type, and of nodes of a kind that has none.
func TestConstraintsOfTypes(t *testing.T) {
	wrong := limited(api.TypeInt, span(2, 1))
	wantChecked(t, "no kind", api.Type{Kind: api.TypeKinds, Limits: wrong.Limits}, 0, api.ErrKind)
	wantChecked(t, "two roots", limited(api.TypeInt, append(wrong.Limits, wrong.Limits...)), 0, api.ErrShape)
	wantChecked(t, "no name", api.Type{Kind: api.TypeRef, Limits: wrong.Limits}, 0, api.ErrName)
	wantChecked(t, "a NULL with nodes", limited(api.TypeNull, span(1, 1)), 0, api.ErrForm)
	wantChecked(t, "too many nodes", limited(api.TypeInt, nodes(api.MaxLimitNodes+1)), 0, api.ErrShape)
	wantChecked(t, "as many nodes as there may be", limited(api.TypeInt, nodes(api.MaxLimitNodes)), api.MaxLimitNodes, api.OK)
	wantChecked(t, "a reference", limited(api.TypeRef, span(1, 2)), 0, api.ErrKind)
	wantChecked(t, "a wrong node of a reference", limited(api.TypeRef, union(span(1, 2), marker(span(2, 1)))), 0, api.ErrKind)
	within := api.Type{Kind: api.TypeList, Of: []api.Type{wrong}, Limits: size(span(1, 2))}
	wantChecked(t, "a type within it", within, 2, api.OK)
	within.Of[0].Limits = append(wrong.Limits, wrong.Limits...)
	wantChecked(t, "a tree within it", within, 0, api.ErrShape)
}

// nodes returns a constraint with so many nodes.
func nodes(n int) api.Limits {
	if n%2 == 0 {
		return marker(nodes(n - 1))
	}
	if n == 1 {
		return span(1, 1)
	}
	return union(nodes(n-2), span(n, n))
}

// P4.1: the errors of nodes, with their indexes.
func TestWrongConstraints(t *testing.T) {
	one, sized, fromA := span(1, 1), size(span(1, 1)), from(text("a"))
	tooLong := strings.Repeat("1", api.MaxString+1)
	const largest = api.MaxInteger
	for what, c := range map[string]struct {
		kind   int
		limits api.Limits
		index  int
		e      api.Errno
	}{
		"a marker in a union":                  {api.TypeInt, union(one, marker(one)), 2, api.ErrState},
		"a marker in a marker":                 {api.TypeInt, marker(marker(one)), 1, api.ErrState},
		"a marker of additions":                {api.TypeInt, marker(one, marker(one, one)), 3, api.ErrState},
		"a marker in SIZE":                     {api.TypeList, size(marker(one)), 1, api.ErrState},
		"a marker in FROM":                     {api.TypeChars, from(marker(one)), 1, api.ErrState},
		"a text of numbers":                    {api.TypeInt, text("1"), 0, api.ErrType},
		"a long text of numbers":               {api.TypeInt, text(tooLong), 0, api.ErrType},
		"a size of numbers":                    {api.TypeInt, sized, 1, api.ErrType},
		"FROM of numbers":                      {api.TypeInt, fromA, 1, api.ErrType},
		"a range of bits":                      {api.TypeBits, one, 0, api.ErrType},
		"FROM of bits":                         {api.TypeBits, from(text("1")), 1, api.ErrType},
		"a range of octets":                    {api.TypeOctets, one, 0, api.ErrType},
		"FROM of octets":                       {api.TypeOctets, fromA, 1, api.ErrType},
		"a range of characters":                {api.TypeChars, marker(one), 0, api.ErrType},
		"a range of items":                     {api.TypeList, one, 0, api.ErrType},
		"a text of items":                      {api.TypeBag, text("1"), 0, api.ErrType},
		"FROM of items":                        {api.TypeBag, fromA, 1, api.ErrType},
		"a text in SIZE":                       {api.TypeChars, size(text("1")), 0, api.ErrType},
		"SIZE in SIZE":                         {api.TypeList, size(sized), 1, api.ErrType},
		"FROM in SIZE":                         {api.TypeChars, size(fromA), 1, api.ErrType},
		"SIZE in FROM":                         {api.TypeChars, from(sized), 1, api.ErrType},
		"FROM in FROM":                         {api.TypeChars, from(fromA), 1, api.ErrType},
		"a range the wrong way round":          {api.TypeInt, both(one, span(2, 1)), 1, api.ErrRange},
		"a range below all":                    {api.TypeInt, span(-largest-1, 0), 0, api.ErrRange},
		"a range above all":                    {api.TypeInt, span(0, largest+1), 0, api.ErrRange},
		"a number above all":                   {api.TypeInt, span(largest+1, largest+1), 0, api.ErrRange},
		"a size below 0":                       {api.TypeBits, size(span(-1, 5)), 0, api.ErrRange},
		"a size above all":                     {api.TypeOctets, size(span(0, api.MaxString+1)), 0, api.ErrRange},
		"a size above all of characters":       {api.TypeChars, size(union(one, span(0, api.MaxString+1))), 1, api.ErrRange},
		"a size above all of lists":            {api.TypeList, size(span(0, api.MaxItems+1)), 0, api.ErrRange},
		"a size above all of bags":             {api.TypeBag, size(span(api.MaxItems+1, api.MaxItems+1)), 0, api.ErrRange},
		"a size of lists the wrong way round":  {api.TypeBag, size(span(2, 1)), 0, api.ErrRange},
		"a character below 0":                  {api.TypeChars, from(span(-1, 5)), 0, api.ErrRange},
		"a character above all":                {api.TypeChars, from(span(5, 128)), 0, api.ErrRange},
		"a text that is none of IA5":           {api.TypeChars, text("a\x80"), 0, api.ErrType},
		"a text that is none of bits":          {api.TypeBits, text("012"), 0, api.ErrType},
		"no character":                         {api.TypeChars, from(text("")), 0, api.ErrType},
		"a text of FROM above all":             {api.TypeChars, from(text("a\x80")), 0, api.ErrType},
		"a long text":                          {api.TypeChars, text(tooLong), 0, api.ErrLarge},
		"long bits":                            {api.TypeBits, text(tooLong), 0, api.ErrLarge},
		"long octets":                          {api.TypeOctets, text(tooLong), 0, api.ErrLarge},
		"a long text of FROM":                  {api.TypeChars, from(text(tooLong)), 0, api.ErrLarge},
		"a long text that is none":             {api.TypeChars, text(tooLong + "\x80"), 0, api.ErrType},
		"a wrong node behind":                  {api.TypeInt, union(span(2, 1), text("")), 0, api.ErrRange},
		"a wrong node before":                  {api.TypeInt, union(text(""), span(2, 1)), 0, api.ErrType},
		"a wrong operand of a misplaced node":  {api.TypeInt, size(span(0, api.MaxString+1)), 0, api.ErrRange},
		"a right operand of a misplaced node":  {api.TypeInt, size(span(0, api.MaxString)), 1, api.ErrType},
		"a misplaced node before a marker":     {api.TypeInt, union(marker(sized), one), 1, api.ErrType},
		"a marker before a misplaced node":     {api.TypeInt, union(marker(one), sized), 1, api.ErrState},
		"operands of a union behind a marker":  {api.TypeChars, marker(fromA, union(sized, one)), 4, api.ErrType},
		"a text in a range's place, in FROM":   {api.TypeChars, union(fromA, from(without(one, text("")))), 3, api.ErrType},
		"a size in a node of all three others": {api.TypeChars, size(union(both(one, one), without(one, text("a")))), 4, api.ErrType},
	} {
		wantChecked(t, what, limited(c.kind, c.limits), c.index, c.e)
	}
	for name, wrong := range map[string]string{api.Numeric: "a", api.Printable: "_", api.Visible: "\x1f", api.Ia5: "\x80"} {
		wantChecked(t, name, stringType(name, union(text(""), text("0"+wrong))), 1, api.ErrType)
	}
}

// P4.1: which bytes strings may have.
func TestCharacters(t *testing.T) {
	for name, want := range map[string]string{
		api.Numeric:   " 0123456789",
		api.Printable: " '()+,-./0123456789:=?ABCDEFGHIJKLMNOPQRSTUVWXYZabcdefghijklmnopqrstuvwxyz",
		api.Visible:   bytes(32, 126),
		api.Ia5:       bytes(0, 127),
	} {
		l, e := limits.CharactersOf(name)
		count, err := limits.CheckSpans(l)
		wantResult(t, name, count, err, len(l), e)
		got := ""
		for _, s := range l {
			got += bytes(s.Low, s.High)
		}
		wantResult(t, name, got, e, want, api.OK)
		for c := range 256 {
			index, wantE := 0, api.ErrType
			if strings.IndexByte(want, byte(c)) >= 0 {
				index, wantE = 1, api.OK
			}
			wantChecked(t, fmt.Sprintf("%s with %d", name, c), stringType(name, text(string([]byte{byte(c)}))), index, wantE)
		}
	}
	for _, name := range []string{"", "IA5", "ia5String", "NumericString ", "UTF8String", "INTEGER"} {
		l, e := limits.CharactersOf(name)
		wantResult(t, "CharactersOf "+name, l, e, spansIn(""), api.ErrName)
	}
	l, e := limits.CharactersOf(api.Numeric)
	wantResult(t, "example 4", len(l), e, 2, api.OK)
}

// bytes returns the string of all bytes from one to another.
func bytes(low, high int) string {
	var l []byte
	for c := low; c <= high; c++ {
		l = append(l, byte(c))
	}
	return string(l)
}
