package notation_test

import (
	"fmt"
	"strings"
	"testing"

	"examiner/api"
	"examiner/lexis"
	"examiner/notation"
)

// A reading is how texts of one sort are read: the place, or the length, and the error.
type reading func(string) (int, api.Errno)

func readType(s string) (int, api.Errno) {
	return readOf(s, notation.ParseType, notation.FormatType)
}

func readPlain(s string) (int, api.Errno) {
	return readOf(s, notation.ParsePlain, notation.FormatPlain)
}

func readModule(s string) (int, api.Errno) {
	return readOf(s, notation.ParseModule, notation.FormatModule)
}

// readOf reads a text. What is read has a text, and beside an error there is nothing.
func readOf[T any](s string, parse func(string) (T, int, api.Errno), format func(T) (string, api.Errno)) (int, api.Errno) {
	x, n, e := parse(s)
	var none T
	if e != api.OK {
		if !alike(x, none) {
			panic("something beside an error: " + s)
		}
		return n, e
	}
	if _, e := format(x); e != api.OK && e != api.ErrLarge {
		panic("what is read has no text: " + s)
	}
	return n, e
}

func TestTypesRead(t *testing.T) {
	for s, want := range typeTexts() {
		if y := typeOf(t, s); !alike(y, want) {
			t.Errorf("%q: %+v, want %+v", s, y, want)
		}
	}
	for s, same := range map[string]string{
		"  SEQUENCE{a NULL}\n":                           "SEQUENCE {a NULL}",
		"INTEGER -- small -- (0 .. 7)":                   "INTEGER (0..7)",
		"/* x */ T{ NULL,U }(1)":                         "T {NULL, U} (1)",
		"C . & id ( { S } { @ i } )":                     "C.&id ({S} {@i})",
		"INTEGER (5..5)":                                 "INTEGER (5)",
		"INTEGER ((5))":                                  "INTEGER (5)",
		"INTEGER (((1 | 2)) | (3))":                      "INTEGER (1 | 2 | 3)",
		"INTEGER (- 1152921504606846976..- 0)":           "INTEGER (MIN..0)",
		"INTEGER (0..1152921504606846976)":               "INTEGER (0..MAX)",
		"INTEGER (1152921504606846976)":                  "INTEGER (MAX)",
		"INTEGER (-1152921504606846976 | (MAX))":         "INTEGER (MIN | MAX)",
		"INTEGER (MIN..MIN | MAX..1152921504606846976)":  "INTEGER (MIN | MAX)",
		"INTEGER ((1 EXCEPT 2) ^ 3)":                     "INTEGER (1 EXCEPT 2 ^ 3)",
		"ENUMERATED {a(-0),...}":                         "ENUMERATED {a (0), ...}",
		"OCTET STRING ('ABC'H)":                          "OCTET STRING ('ABC0'H)",
		"IA5String (FROM ((\"a\") | (\"b\"..\"c\")))":    "IA5String (FROM (\"a\" | \"b\"..\"c\"))",
		"IA5String ((SIZE ((1))) ^ (FROM ((\"\"))))":     "IA5String (SIZE (1) ^ FROM (\"\"))",
		"SEQUENCE {a T DEFAULT {mantissa 1,base 2,c 3}}": "SEQUENCE {a T DEFAULT {mantissa 1, base 2, c 3}}",
		"BIT\nSTRING":                                    "BIT STRING",
	} {
		y, n, e := notation.ParseType(s)
		if !alike(y, typeOf(t, same)) || n != len(s) || e != api.OK {
			t.Errorf("%q: %+v, %d, %d, want that of %q", s, y, n, e, same)
		}
	}
}

func TestPlainValuesRead(t *testing.T) {
	for s, want := range plainTexts() {
		if v := plainOf(t, s); !alike(v, want) {
			t.Errorf("%q: %+v, want %+v", s, v, want)
		}
	}
	for s, want := range map[string]api.Value{
		"-0": number(0), "-5": number(-5), "'A'H": octets("\xa0"), "'ABC'H": octets("\xab\xc0"), "'0'H": octets("\x00"), "'10'B": bits("10"), ` "" `: chars(""), "{ }": list(), "{ 1 }": list(number(1)), "{1\n2}": oid(1, 2),
		"{a:{b:1}}": list(union("a", list(union("b", number(1))))), "{mantissa -0,base 2,exponent 0}": real(0, 0), "--c--a": enum("a"), "a/**/:/**/5": union("a", number(5)), "{a -- : --b}": record("a", enum("b")),
	} {
		v, n, e := notation.ParsePlain(s)
		if !alike(v, want) || n != len(s) || e != api.OK {
			t.Errorf("%q: %+v, %d, %d, want %+v", s, v, n, e, want)
		}
	}
}

func TestModulesRead(t *testing.T) {
	if m := moduleOf(t, largeModuleText); !alike(m, largeModule()) {
		t.Errorf("the large module: %+v", m)
	}
	want := moduleOf(t, largeModuleText)
	for what, s := range map[string]string{
		"one line":       strings.ReplaceAll(largeModuleText, "\n", " "),
		"a token a line": strings.ReplaceAll(largeModuleText, " ", "\n"),
		"comments":       strings.ReplaceAll(largeModuleText, "\n", " -- end of a line\n"),
	} {
		if m := moduleOf(t, s); !alike(m, want) {
			t.Errorf("%s: %+v", what, m)
		}
	}
}

// A misread is a text, the place of what is wrong, and the error.
type misread struct {
	text string
	at   int
	want api.Errno
}

// wantMisread checks what is told of texts, and that their beginnings up to the place are not wrong yet.
func wantMisread(t *testing.T, read reading, l []misread) {
	t.Helper()
	for _, x := range l {
		if at, e := read(x.text); at != x.at || e != x.want {
			t.Errorf("%q: place %d, error %d, want %d, %d", x.text, at, e, x.at, x.want)
		}
		if x.want == api.ErrEnd && x.at != len(x.text) {
			t.Errorf("%q does not end at %d", x.text, x.at)
		}
		wantGoodBeginning(t, read, x.text)
	}
}

// wantGoodBeginning checks that no token before the place of a wrong one is wrong: what is before it is whole, or goes on.
func wantGoodBeginning(t *testing.T, read reading, s string) {
	t.Helper()
	if _, _, e := lexis.TokensOf(api.LangAsn, s); e != api.OK {
		return
	}
	at, e := read(s)
	if e != api.ErrSyntax {
		return
	}
	if n, e := read(s[:at]); e != api.ErrEnd && n != at && n != 0 || e == api.ErrSyntax {
		t.Errorf("%q: error at %d, but %q: place %d, error %d", s, at, s[:at], n, e)
	}
}

func TestTypesMisread(t *testing.T) {
	wantMisread(t, readType, []misread{
		{"", 0, api.ErrEnd}, {" \n", 2, api.ErrEnd}, {"-- c", 4, api.ErrEnd}, {"[", 1, api.ErrEnd}, {"[5", 2, api.ErrEnd}, {"[5] ", 4, api.ErrEnd}, {"BIT", 3, api.ErrEnd}, {"OBJECT", 6, api.ErrEnd}, {"SEQUENCE", 8, api.ErrEnd}, {"SEQUENCE {", 10, api.ErrEnd}, {"SEQUENCE {a", 11, api.ErrEnd}, {"SEQUENCE {a NULL", 16, api.ErrEnd}, {"SEQUENCE {a NULL,", 17, api.ErrEnd}, {"SEQUENCE OF", 11, api.ErrEnd}, {"SET (SIZE (1))", 14, api.ErrEnd},
		{"SEQUENCE {a NULL DEFAULT", 24, api.ErrEnd}, {"SEQUENCE {..., [[", 17, api.ErrEnd}, {"ENUMERATED", 10, api.ErrEnd}, {"ENUMERATED {a", 13, api.ErrEnd}, {"ENUMERATED {a (", 15, api.ErrEnd}, {"ENUMERATED {a (-", 16, api.ErrEnd}, {"T {", 3, api.ErrEnd}, {"C.", 2, api.ErrEnd}, {"C.&x ({S}", 9, api.ErrEnd}, {"C.&x ({S} {@", 12, api.ErrEnd},
		{"INTEGER (", 9, api.ErrEnd}, {"INTEGER (5", 10, api.ErrEnd}, {"INTEGER (5..", 12, api.ErrEnd}, {"INTEGER (MIN", 12, api.ErrEnd}, {"INTEGER (1,", 11, api.ErrEnd}, {"INTEGER (1, ...", 15, api.ErrEnd}, {"INTEGER (1, ...,", 16, api.ErrEnd}, {"INTEGER (1 |", 12, api.ErrEnd}, {"INTEGER (SIZE", 13, api.ErrEnd}, {`IA5String (FROM ("a"`, 20, api.ErrEnd}, {`INTEGER (FROM ("a"`, 18, api.ErrEnd}, {`INTEGER (FROM ("a"..`, 20, api.ErrEnd},
		{"NULL NULL", 5, api.ErrSyntax}, {"foo", 0, api.ErrSyntax}, {"5", 0, api.ErrSyntax}, {"STRING", 0, api.ErrSyntax}, {"BIT INTEGER", 4, api.ErrSyntax}, {"OCTET IDENTIFIER", 6, api.ErrSyntax}, {"CLASS {}", 0, api.ErrSyntax}, {`"NULL"`, 0, api.ErrSyntax}, {"T (1) (2)", 6, api.ErrSyntax}, {"T {NULL} {NULL}", 9, api.ErrSyntax},
		{"[UNIVERSAL 5] NULL", 1, api.ErrSyntax}, {"[-5] NULL", 1, api.ErrSyntax}, {"[5 IMPLICIT NULL", 3, api.ErrSyntax}, {"[5] AUTOMATIC NULL", 4, api.ErrSyntax}, {"IMPLICIT NULL", 0, api.ErrSyntax}, {"[] NULL", 1, api.ErrSyntax}, {"[[5]] NULL", 0, api.ErrSyntax}, {"[5] IMPLICIT EXPLICIT NULL", 13, api.ErrSyntax},
		{"SEQUENCE {A NULL}", 10, api.ErrSyntax}, {"SEQUENCE {a}", 11, api.ErrSyntax}, {"SEQUENCE {a NULL b NULL}", 17, api.ErrSyntax}, {"SEQUENCE {a NULL,}", 17, api.ErrSyntax}, {"SEQUENCE {,}", 10, api.ErrSyntax}, {"SEQUENCE {[[a NULL]]}", 10, api.ErrSyntax}, {"SEQUENCE {..., ...}", 15, api.ErrSyntax}, {"SEQUENCE {..., [[]]}", 17, api.ErrSyntax}, {"SEQUENCE {..., [[a NULL}", 23, api.ErrSyntax}, {"SEQUENCE {..., [[a NULL,]]}", 24, api.ErrSyntax}, {"SEQUENCE {..., [[[[a NULL]]]]}", 17, api.ErrSyntax}, {"SEQUENCE {..., a NULL]]}", 21, api.ErrSyntax}, {"SEQUENCE {..., [[...]]}", 17, api.ErrSyntax},
		{"SEQUENCE {a NULL OPTIONAL DEFAULT 1}", 26, api.ErrSyntax}, {"SEQUENCE {a NULL DEFAULT}", 24, api.ErrSyntax}, {"SEQUENCE {a NULL DEFAULT 1 OPTIONAL}", 27, api.ErrSyntax}, {"SEQUENCE (SIZE (1)) {a NULL}", 20, api.ErrSyntax}, {"SEQUENCE SIZE (1) OF NULL", 9, api.ErrSyntax}, {"SEQUENCE OF INTEGER (1) (2)", 24, api.ErrSyntax}, {"SEQUENCE OF NULL (1)", 17, api.ErrSyntax}, {"CHOICE OF NULL", 7, api.ErrSyntax}, {"CHOICE (1) {a NULL}", 7, api.ErrSyntax}, {"SEQUENCE NULL", 9, api.ErrSyntax},
		{"ENUMERATED {a}", 13, api.ErrSyntax}, {"ENUMERATED {A (0)}", 12, api.ErrSyntax}, {"ENUMERATED {a (b)}", 15, api.ErrSyntax}, {"ENUMERATED {a (0), ..., [[b (1)]]}", 24, api.ErrSyntax}, {"ENUMERATED {a (0), ..., ...}", 24, api.ErrSyntax}, {"ENUMERATED {a (--0)}", 20, api.ErrEnd}, {"ENUMERATED {a (- -0)}", 17, api.ErrSyntax}, {"ENUMERATED OF NULL", 11, api.ErrSyntax},
		{"T {}", 3, api.ErrSyntax}, {"T {5}", 3, api.ErrSyntax}, {"T {NULL,}", 8, api.ErrSyntax}, {"T {a}", 3, api.ErrSyntax}, {"C.id ({S})", 2, api.ErrSyntax}, {"C.&id", 5, api.ErrEnd}, {"C.&id {S}", 6, api.ErrSyntax}, {"C.&id ({s})", 8, api.ErrSyntax}, {"C.&id ({S}{i})", 11, api.ErrSyntax}, {"C.&id ({S}{@I})", 12, api.ErrSyntax}, {"C.&id ({S}{@i}{@i})", 14, api.ErrSyntax}, {"C.&id (S)", 7, api.ErrSyntax}, {"c.&id ({S})", 0, api.ErrSyntax}, {"C.&INTEGER ({S})", 3, api.ErrSyntax},
		{"INTEGER ()", 9, api.ErrSyntax}, {"INTEGER (1...5)", 10, api.ErrSyntax}, {"INTEGER (-MIN..5)", 10, api.ErrSyntax}, {"INTEGER (1, 2)", 12, api.ErrSyntax}, {"INTEGER (1, ..., 2, ...)", 18, api.ErrSyntax}, {"INTEGER (...)", 9, api.ErrSyntax}, {"INTEGER (1 EXCEPT 2 EXCEPT 3)", 20, api.ErrSyntax}, {"INTEGER (EXCEPT 1)", 9, api.ErrSyntax}, {"INTEGER (1 UNION 2)", 11, api.ErrSyntax}, {"INTEGER ((1)", 12, api.ErrEnd}, {"INTEGER (1))", 11, api.ErrSyntax}, {"INTEGER (a)", 9, api.ErrSyntax}, {"INTEGER 5", 8, api.ErrSyntax}, {"INTEGER (SIZE 1)", 14, api.ErrSyntax}, {"INTEGER {a (1)}", 8, api.ErrSyntax},
		{`INTEGER ("a")`, 9, api.ErrSyntax}, {`INTEGER ('1'B)`, 9, api.ErrSyntax}, {`IA5String ('1'B)`, 11, api.ErrSyntax}, {`T ('1'B)`, 3, api.ErrSyntax}, {`BIT STRING ("1")`, 12, api.ErrSyntax}, {`BIT STRING ('1'H)`, 12, api.ErrSyntax}, {`OCTET STRING ('1'B)`, 14, api.ErrSyntax}, {`NULL ("a")`, 5, api.ErrSyntax}, {`SET ("a") OF NULL`, 5, api.ErrSyntax},
		{`IA5String ("a".."c")`, 14, api.ErrSyntax}, {`IA5String (FROM (1))`, 17, api.ErrSyntax}, {`IA5String (FROM (MIN.."c"))`, 17, api.ErrSyntax}, {`IA5String (FROM ("a".."bc"))`, 22, api.ErrSyntax}, {`IA5String (FROM ("ab".."c"))`, 21, api.ErrSyntax}, {`IA5String (FROM ("".."c"))`, 19, api.ErrSyntax}, {`IA5String (FROM ("a"..1))`, 22, api.ErrSyntax}, {`INTEGER (FROM ("a"))`, 18, api.ErrSyntax}, {`INTEGER (FROM ("ab"))`, 15, api.ErrSyntax}, {`BIT STRING (FROM ("a" | '1'B))`, 22, api.ErrSyntax}, {`IA5String (FROM ("a") | "b".."c")`, 27, api.ErrSyntax}, {`IA5String (SIZE ("a".."c"))`, 17, api.ErrSyntax},
		{"SEQUENCE {a # NULL}", 12, api.ErrSyntax}, {"[007] NULL", 1, api.ErrSyntax}, {"[1152921504606846977] NULL", 1, api.ErrRange}, {"/* NULL", 0, api.ErrOpen}, {`IA5String ("a)`, 11, api.ErrOpen}, {"a # 1", 2, api.ErrSyntax}, {"NULL\r", 4, api.ErrForm}, {strings.Repeat("a", api.MaxName+1), 0, api.ErrName}, {strings.Repeat(" ", api.MaxText+1), 0, api.ErrLarge}, {strings.Repeat("( ", api.MaxTokens+1), 0, api.ErrLarge},
	})
}

// A framing is how a type stands within a longer text.
type framing struct {
	read          reading
	before, after string
}

// framings are types by themselves, within types, and in each item of a module that has one.
func framings() []framing {
	const head = "M DEFINITIONS EXPLICIT TAGS ::= BEGIN EXPORTS; "
	return []framing{
		{readType, "", ""}, {readType, "[0] ", ""}, {readType, "SEQUENCE OF ", ""}, {readType, "SET (SIZE (1)) OF ", ""}, {readType, "T {NULL, ", "}"},
		{readType, "SEQUENCE {x ", ", y NULL}"}, {readType, "SET {..., [[x ", " OPTIONAL]]}"}, {readType, "CHOICE {x ", "}"},
		{readModule, head + "T ::= ", " END"}, {readModule, head + "T {A} ::= ", " END"}, {readModule, head + "v ", " ::= 5 END"}, {readModule, head + "C ::= CLASS {&x ", " UNIQUE} END"}, {readModule, head + "o C ::= {&X ", ", &y 5} END"},
	}
}

// wantFramed checks what is told of texts of types wherever types stand: their places are behind what stands before.
func wantFramed(t *testing.T, l []misread) {
	t.Helper()
	for _, g := range framings() {
		var within []misread
		for _, x := range l {
			at := len(g.before) + x.at
			switch x.want {
			case api.OK:
				within = append(within, misread{g.before + x.text + g.after, len(g.before + x.text + g.after), api.OK})
			case api.ErrEnd:
				within = append(within, misread{g.before + x.text, at, x.want})
			default:
				within = append(within, misread{g.before + x.text, at, x.want}, misread{g.before + x.text + g.after, at, x.want})
			}
		}
		wantMisread(t, g.read, within)
	}
}

// P2.5: behind a type that has no constraint none can stand.
func TestNoConstraintRead(t *testing.T) {
	for _, s := range []string{
		"NULL", "BOOLEAN", "REAL", "OBJECT IDENTIFIER", "ENUMERATED {a (0)}", "ENUMERATED {a (0), ...}", "SEQUENCE {}", "SEQUENCE {a INTEGER (1)}", "SET {...}", "SET {a NULL}", "CHOICE {a NULL}", "C.&id ({S})", "C.&Type ({S} {@i})",
	} {
		at := len(s) + 1
		wantFramed(t, []misread{
			{s, 0, api.OK}, {s + " (", at, api.ErrSyntax}, {s + "(", at - 1, api.ErrSyntax}, {s + " ()", at, api.ErrSyntax}, {s + " (1)", at, api.ErrSyntax}, {s + " (SIZE (1))", at, api.ErrSyntax}, {s + ` (FROM ("a"))`, at, api.ErrSyntax}, {s + " (1, ...)", at, api.ErrSyntax}, {s + " ({S})", at, api.ErrSyntax},
		})
	}
	for _, s := range []string{"INTEGER", "BIT STRING", "OCTET STRING", "IA5String", "T", "T {NULL}"} {
		wantFramed(t, []misread{{s + " (5)", 0, api.OK}, {s + " (", len(s) + 2, api.ErrEnd}, {s + " (5) (", len(s) + 5, api.ErrSyntax}})
	}
	for _, s := range []string{"SEQUENCE", "SET"} {
		wantFramed(t, []misread{{s + " (5) OF NULL", 0, api.OK}, {s + " (", len(s) + 2, api.ErrEnd}, {s + " (5) OF NULL (", len(s) + 13, api.ErrSyntax}, {s + " OF NULL (5)", len(s) + 9, api.ErrSyntax}})
	}
}

// P2.5: the fields of a union are always there, so that nothing says of them when they are; those within them have their own words.
func TestNoPresenceRead(t *testing.T) {
	for _, s := range []string{
		"CHOICE {a NULL", "CHOICE {a INTEGER (1..5)", "CHOICE {a NULL, b [0] T {U}", "CHOICE {..., a NULL", "CHOICE {a NULL, ..., b NULL", "CHOICE {a NULL, ..., [[b NULL", "CHOICE {a NULL, ..., [[b NULL, c SEQUENCE OF NULL", "CHOICE {a CHOICE {b NULL}", "CHOICE {a CHOICE {b NULL", "SEQUENCE {a CHOICE {b NULL", "CHOICE {a SEQUENCE {b NULL OPTIONAL}",
	} {
		at := len(s) + 1
		wantFramed(t, []misread{
			{s, at - 1, api.ErrEnd}, {s + " OPTIONAL", at, api.ErrSyntax}, {s + " OPTIONAL}", at, api.ErrSyntax}, {s + " OPTIONAL, z NULL}", at, api.ErrSyntax}, {s + " DEFAULT", at, api.ErrSyntax}, {s + " DEFAULT 5}", at, api.ErrSyntax}, {s + " DEFAULT NULL]]}", at, api.ErrSyntax},
		})
	}
	wantFramed(t, []misread{
		{"CHOICE {a SEQUENCE {b NULL OPTIONAL, c INTEGER DEFAULT 5}}", 0, api.OK}, {"SEQUENCE {a CHOICE {b NULL} OPTIONAL, c CHOICE {b NULL} DEFAULT b: NULL}", 0, api.OK}, {"SET {a NULL OPTIONAL, ..., [[b NULL DEFAULT NULL]]}", 0, api.OK},
	})
}

// P2.5, P2.4: within SIZE only numbers can stand, within FROM only characters, until it is closed.
func TestWithinSizeAndFromRead(t *testing.T) {
	inSize, inFrom := []string{"SIZE", "FROM", `"a"`, `""`, "'01'B", "'0A'H"}, []string{"SIZE", "FROM", "1", "-", "MIN", "MAX"}
	for _, of := range []string{"INTEGER", "BIT STRING", "OCTET STRING", "IA5String", "T", "T {NULL}"} {
		for _, x := range []struct {
			before string
			wrong  []string
		}{
			{"SIZE (", inSize}, {"SIZE ((", inSize}, {"SIZE (1 | ", inSize}, {"SIZE (MIN..1 ^ ((2 | ", inSize}, {"SIZE (1 EXCEPT (", inSize}, {"5 | SIZE (", inSize}, {`FROM ("a".."b") ^ SIZE (`, inSize}, {"5, ..., SIZE (", inSize},
			{"FROM (", inFrom}, {"FROM ((", inFrom}, {`FROM ("a".."b" | `, inFrom}, {`FROM ("a".."b" ^ (`, inFrom}, {`FROM (("a".."b") EXCEPT (`, inFrom}, {"SIZE (1) ^ FROM (", inFrom}, {"5, ..., FROM (", inFrom}, {`FROM ("a"..`, inFrom},
		} {
			s := of + " (" + x.before
			wantFramed(t, []misread{{s, len(s), api.ErrEnd}})
			for _, token := range x.wrong {
				wantFramed(t, []misread{{s + token, len(s), api.ErrSyntax}, {s + token + " (1)))", len(s), api.ErrSyntax}})
			}
		}
		wantFramed(t, []misread{{of + ` ((SIZE ((1) | 2)) ^ FROM ("a".."b" | ("c".."d")) ^ (SIZE (3) EXCEPT FROM ("e".."f")) | 5, ..., SIZE (1))`, 0, api.OK}})
	}
	wantFramed(t, []misread{{`IA5String (SIZE (1) | "a" | FROM ("a" | ("b".."c")) | "a")`, 0, api.OK}, {`BIT STRING (FROM ('01'B | "a".."b") | '01'B | SIZE (1))`, 0, api.OK}, {`OCTET STRING (SIZE (1) | '01'H | FROM ('0A'H))`, 0, api.OK}})
}

// P2.5, P2.4: a marker stands in the outermost parentheses alone, behind all operands.
func TestMarkerWithinRead(t *testing.T) {
	for _, of := range []string{"INTEGER", "BIT STRING", "IA5String", "T"} {
		for _, before := range []string{
			"(1", "((1", "(1 | 2", "(1..2 ^ (3 EXCEPT 4)", "9 | (0", "9 ^ (0", "9 EXCEPT (0", "(1 | 2) ^ (3", "SIZE (0", "SIZE ((0", "SIZE (0 | (1..2", "9 | SIZE (0", `FROM ("a".."b"`, `FROM (("a".."b"`, `FROM ("a".."b" | ("c".."d"`, "1, ..., (2", "1, ..., SIZE (2", "1, ..., 2 | (3 | 4",
		} {
			s := of + " (" + before
			wantFramed(t, []misread{{s, len(s), api.ErrEnd}, {s + ",", len(s), api.ErrSyntax}, {s + ", ...))", len(s), api.ErrSyntax}, {s + ", ...) | 9)", len(s), api.ErrSyntax}, {s + ", ..., 5)))", len(s), api.ErrSyntax}, {s + " ...", len(s) + 1, api.ErrSyntax}})
		}
		wantFramed(t, []misread{
			{of + " ((1), ...)", 0, api.OK}, {of + " (SIZE (1), ..., (SIZE (2)))", 0, api.OK}, {of + ` ((1 | 2) ^ 3, ..., FROM ("a".."b") | (4))`, 0, api.OK},
			{of + " ((1),", len(of) + 6, api.ErrEnd}, {of + " ((1), ..., (2),", len(of) + 15, api.ErrSyntax}, {of + " ((1), ... | 2)", len(of) + 11, api.ErrSyntax},
		})
	}
	wantFramed(t, []misread{{"SEQUENCE (SIZE (1), ...) OF INTEGER ((2), ...)", 0, api.OK}, {"SEQUENCE (SIZE (1, ...)) OF NULL", 17, api.ErrSyntax}, {"SET ((SIZE (1), ...)) OF NULL", 14, api.ErrSyntax}})
}

// P2.5, P2.4: MIN and MAX are numbers, also by themselves; characters and other numbers they are not.
func TestEndsAloneRead(t *testing.T) {
	for _, end := range []string{"MIN", "MAX"} {
		for _, x := range []struct{ before, after string }{
			{"INTEGER (", ")"}, {"INTEGER ((", "))"}, {"INTEGER (5 | ", " | 6)"}, {"INTEGER (", " EXCEPT 5)"}, {"INTEGER (5 EXCEPT ", " ^ 5)"}, {"INTEGER (", ", ...)"}, {"INTEGER (5, ..., ", ")"}, {"T (SIZE (", "))"}, {"T (SIZE (5 | (", ")))"}, {"BIT STRING (", ")"}, {"IA5String (", ` | "a")`},
		} {
			s := x.before + end
			wantFramed(t, []misread{{s + x.after, 0, api.OK}, {s, len(s), api.ErrEnd}, {s + "..", len(s) + 2, api.ErrEnd}, {s + " | ", len(s) + 3, api.ErrEnd}, {s + " 5", len(s) + 1, api.ErrSyntax}, {s + "...5", len(s), api.ErrSyntax}, {s + " MIN", len(s) + 1, api.ErrSyntax}})
		}
		wantFramed(t, []misread{
			{"INTEGER (-" + end, 10, api.ErrSyntax}, {"INTEGER (5..-" + end, 13, api.ErrSyntax}, {"INTEGER [" + end + "] NULL", 8, api.ErrSyntax}, {"[" + end + "] NULL", 1, api.ErrSyntax}, {"ENUMERATED {a (" + end, 15, api.ErrSyntax}, {"SEQUENCE {a INTEGER DEFAULT " + end, 28, api.ErrSyntax}, {`T (FROM (` + end, 9, api.ErrSyntax},
		})
	}
}

// P2.5: what is read, but not right, has the error of the type at the place 0.
func TestTypesReadAndRefused(t *testing.T) {
	many := strings.Repeat("a NULL, ", 16)
	wantMisread(t, readType, []misread{
		{"ENUMERATED {}", 0, api.ErrShape}, {"ENUMERATED {...}", 0, api.ErrShape}, {"ENUMERATED {..., a (0)}", 0, api.ErrShape}, {"CHOICE {}", 0, api.ErrShape}, {"CHOICE {...}", 0, api.ErrShape}, {"CHOICE {..., a NULL}", 0, api.ErrShape},
		{"[0] [1] [2] [3] NULL", 0, api.ErrLarge}, {"[100001] NULL", 0, api.ErrRange}, {"SEQUENCE {" + many + "b NULL}", 0, api.ErrLarge}, {"SEQUENCE {a NULL, a NULL}", 0, api.ErrDouble}, {"ENUMERATED {a (0), b (-0)}", 0, api.ErrDouble}, {"T {A, B, C, D, E}", 0, api.ErrLarge},
		{"INTEGER (" + strings.Repeat("1 | ", 10) + "1)", 0, api.ErrShape}, {"SEQUENCE {a NULL DEFAULT {mantissa 2, base 2, exponent 0}}", 0, api.ErrRange}, {"SEQUENCE {a NULL DEFAULT {3 4}}", 0, api.ErrRange}, {"SEQUENCE {a NULL DEFAULT {b 1, b 2}}", 0, api.ErrDouble},
		{strings.Repeat("SEQUENCE OF ", 9) + "NULL", 0, api.ErrLarge}, {strings.Repeat("SEQUENCE OF ", 19) + "NULL", 0, api.ErrLarge}, {"SEQUENCE {a T DEFAULT " + strings.Repeat("{", 9) + strings.Repeat("}", 9) + "}", 0, api.ErrLarge},
	})
}

func TestPlainValuesMisread(t *testing.T) {
	wantMisread(t, readPlain, []misread{
		{"", 0, api.ErrEnd}, {"{", 1, api.ErrEnd}, {"{1", 2, api.ErrEnd}, {"{1 2", 4, api.ErrEnd}, {"{1,", 3, api.ErrEnd}, {"{a", 2, api.ErrEnd}, {"{a ", 3, api.ErrEnd}, {"{a b", 4, api.ErrEnd}, {"{a b,", 5, api.ErrEnd}, {"{a b, c", 7, api.ErrEnd}, {"{a,", 3, api.ErrEnd}, {"{a:", 3, api.ErrEnd}, {"a:", 2, api.ErrEnd}, {"T", 1, api.ErrEnd}, {"T:", 2, api.ErrEnd}, {"-", 1, api.ErrEnd}, {"{mantissa", 9, api.ErrEnd}, {"{T", 2, api.ErrEnd}, {"{mantissa NULL, base 2, exponent 3", 34, api.ErrEnd},
		{"1 2", 2, api.ErrSyntax}, {"- -1", 2, api.ErrSyntax}, {"-a", 1, api.ErrSyntax}, {"t 5", 2, api.ErrSyntax}, {"T 5", 2, api.ErrSyntax}, {"}", 0, api.ErrSyntax}, {"MIN", 0, api.ErrSyntax}, {"INTEGER", 0, api.ErrSyntax}, {": 5", 0, api.ErrSyntax}, {"(5)", 0, api.ErrSyntax}, {"a: }", 3, api.ErrSyntax}, {"a:: 5", 2, api.ErrSyntax},
		{"{,}", 1, api.ErrSyntax}, {"{1,}", 3, api.ErrSyntax}, {"{1 -2}", 3, api.ErrSyntax}, {"{-1 2}", 4, api.ErrSyntax}, {"{1 2, 3}", 4, api.ErrSyntax}, {"{1 2 -3}", 5, api.ErrSyntax}, {"{1 2 a}", 5, api.ErrSyntax}, {"{1 a}", 3, api.ErrSyntax}, {"{1, 2 3}", 6, api.ErrSyntax}, {"{a 5, 6}", 6, api.ErrSyntax}, {"{a 5, b}", 7, api.ErrSyntax}, {"{a 5, B 6}", 6, api.ErrSyntax}, {"{a 5,}", 5, api.ErrSyntax}, {"{a, b 5}", 6, api.ErrSyntax}, {"{a:5, b 5}", 8, api.ErrSyntax}, {"{a (5)}", 3, api.ErrSyntax}, {"{A}", 2, api.ErrSyntax}, {"{A 5}", 3, api.ErrSyntax}, {"{A, b}", 2, api.ErrSyntax}, {"{a b c}", 5, api.ErrSyntax}, {"{a b: }", 6, api.ErrSyntax}, {"{TRUE 5}", 6, api.ErrSyntax},
		{"{mantissa 5, base 10, exponent 3}", 32, api.ErrSyntax}, {"{mantissa 5, base -2, exponent 3}", 32, api.ErrSyntax}, {"{mantissa a, base 2, exponent 3}", 31, api.ErrSyntax}, {"{mantissa 5, base 2, exponent {3}}", 33, api.ErrSyntax}, {"{mantissa 5, base a: 2, exponent 3}", 34, api.ErrSyntax},
		{"'012'B", 0, api.ErrSyntax}, {"'AB'", 0, api.ErrSyntax}, {"\"a", 0, api.ErrOpen}, {"{1, '", 4, api.ErrOpen}, {"01", 0, api.ErrSyntax}, {"1152921504606846977", 0, api.ErrRange}, {"\"" + strings.Repeat("a", api.MaxString+1) + "\"", 0, api.ErrLarge}, {"{a # b}", 3, api.ErrSyntax}, {"{ , #", 4, api.ErrSyntax},
		{"{3 4}", 0, api.ErrRange}, {"{1 40}", 0, api.ErrRange}, {"{mantissa 4, base 2, exponent 0}", 0, api.ErrRange}, {"{mantissa 1, base 2, exponent 1001}", 0, api.ErrRange}, {"{a 1, a 2}", 0, api.ErrDouble}, {"{" + strings.Repeat("1, ", api.MaxItems) + "1}", 0, api.ErrLarge}, {"{" + strings.Repeat("1 ", api.MaxItems+1) + "}", 0, api.ErrLarge}, {strings.Repeat("{", 9) + strings.Repeat("}", 9), 0, api.ErrLarge},
	})
}

func TestModulesMisread(t *testing.T) {
	const head = "M DEFINITIONS EXPLICIT TAGS ::= BEGIN EXPORTS; " // of 47 characters
	wantMisread(t, readModule, []misread{
		{"", 0, api.ErrEnd}, {"M", 1, api.ErrEnd}, {"M DEFINITIONS", 13, api.ErrEnd}, {"M DEFINITIONS IMPLICIT TAGS ::= BEGIN", 37, api.ErrEnd}, {"M DEFINITIONS IMPLICIT TAGS ::= BEGIN EXPORTS", 45, api.ErrEnd}, {head, 47, api.ErrEnd}, {head + "IMPORTS", 54, api.ErrEnd}, {head + "T", 48, api.ErrEnd}, {head + "T ::=", 52, api.ErrEnd}, {head + "o C ::= {", 56, api.ErrEnd}, {head + "o C ::= {&", 57, api.ErrEnd}, {head + "S C", 50, api.ErrEnd}, {head + "S C ::= {o", 57, api.ErrEnd}, {head + "v", 48, api.ErrEnd}, {head + "C ::= CLASS {&id", 63, api.ErrEnd},
		{"m DEFINITIONS EXPLICIT TAGS ::= BEGIN EXPORTS; END", 0, api.ErrSyntax}, {"M EXPLICIT TAGS", 2, api.ErrSyntax}, {"M DEFINITIONS ::= BEGIN EXPORTS; END", 14, api.ErrSyntax}, {"M DEFINITIONS TAGS ::= BEGIN EXPORTS; END", 14, api.ErrSyntax}, {"M DEFINITIONS EXPLICIT ::= BEGIN EXPORTS; END", 23, api.ErrSyntax}, {"M DEFINITIONS EXPLICIT TAGS ::= BEGIN END", 38, api.ErrSyntax}, {"M DEFINITIONS EXPLICIT TAGS ::= BEGIN EXPORTS a b; END", 48, api.ErrSyntax}, {"M DEFINITIONS EXPLICIT TAGS ::= BEGIN EXPORTS a,; END", 48, api.ErrSyntax}, {"M DEFINITIONS EXPLICIT TAGS ::= BEGIN EXPORTS ALL, a; END", 49, api.ErrSyntax}, {"M DEFINITIONS EXPLICIT TAGS ::= BEGIN EXPORTS INTEGER; END", 46, api.ErrSyntax},
		{head + "END END", 51, api.ErrSyntax}, {head + "IMPORTS; END", 54, api.ErrSyntax}, {head + "IMPORTS FROM N; END", 55, api.ErrSyntax}, {head + "IMPORTS a FROM n; END", 62, api.ErrSyntax}, {head + "IMPORTS a FROM N END", 64, api.ErrSyntax}, {head + "IMPORTS a b FROM N; END", 57, api.ErrSyntax}, {head + "IMPORTS a FROM N, b FROM O; END", 63, api.ErrSyntax}, {head + "IMPORTS a FROM N; IMPORTS b FROM O; END", 65, api.ErrSyntax},
		{head + "T NULL END", 49, api.ErrSyntax}, {head + "T ::= x END", 53, api.ErrSyntax}, {head + "T {} ::= NULL END", 50, api.ErrSyntax}, {head + "T {a} ::= NULL END", 50, api.ErrSyntax}, {head + "T {A B} ::= NULL END", 52, api.ErrSyntax}, {head + "T {A} ::= CLASS {&T} END", 57, api.ErrSyntax}, {head + "INTEGER ::= NULL END", 47, api.ErrSyntax}, {head + "5 ::= NULL END", 47, api.ErrSyntax},
		{head + "v ::= 5 END", 49, api.ErrSyntax}, {head + "v t ::= 5 END", 49, api.ErrSyntax}, {head + "v T 5 END", 51, api.ErrSyntax}, {head + "v T ::= END", 55, api.ErrSyntax}, {head + "v T {U} ::= {&a 5} END", 60, api.ErrSyntax}, {head + "v T (1) ::= {&a 5} END", 60, api.ErrSyntax}, {head + "v T ::= 5; END", 56, api.ErrSyntax}, {head + "v T ::= {5, &a 5} END", 59, api.ErrSyntax},
		{head + "C ::= CLASS {} END", 60, api.ErrSyntax}, {head + "C ::= CLASS {id NULL} END", 60, api.ErrSyntax}, {head + "C ::= CLASS {&id} END", 63, api.ErrSyntax}, {head + "C ::= CLASS {&id OPTIONAL} END", 64, api.ErrSyntax}, {head + "C ::= CLASS {&Type NULL} END", 66, api.ErrSyntax}, {head + "C ::= CLASS {&Type UNIQUE} END", 66, api.ErrSyntax}, {head + "C ::= CLASS {&id NULL OPTIONAL UNIQUE} END", 78, api.ErrSyntax}, {head + "C ::= CLASS {&T &U} END", 63, api.ErrSyntax},
		{head + "o C ::= {&id} END", 59, api.ErrSyntax}, {head + "o C ::= {&id INTEGER} END", 60, api.ErrSyntax}, {head + "o C ::= {&Type 5} END", 62, api.ErrSyntax}, {head + "o C ::= {&id 5 &x 5} END", 62, api.ErrSyntax}, {head + "o C ::= {&id 5, x 5} END", 63, api.ErrSyntax}, {head + "o c ::= {&id 5} END", 49, api.ErrSyntax}, {head + "o C ::= {&id 5} {} END", 63, api.ErrSyntax}, {head + "O C ::= {&id 5} END", 56, api.ErrSyntax},
		{head + "S c ::= {} END", 49, api.ErrSyntax}, {head + "S C {} END", 51, api.ErrSyntax}, {head + "S C ::= {O} END", 56, api.ErrSyntax}, {head + "S C ::= {o, p} END", 59, api.ErrSyntax}, {head + "S C ::= {o p} END", 58, api.ErrSyntax}, {head + "S C ::= {o |} END", 59, api.ErrSyntax}, {head + "S C ::= {..., o} END", 59, api.ErrSyntax}, {head + "S C ::= {o, ..., p} END", 62, api.ErrSyntax}, {head + "S C ::= NULL END", 55, api.ErrSyntax},
		{head + "T ::= NULL T ::= NULL END", 0, api.ErrExists}, {head + "T {A, A} ::= NULL END", 0, api.ErrDouble}, {head + "T ::= ENUMERATED {} END", 0, api.ErrShape}, {head + "IMPORTS a FROM M; END", 0, api.ErrDouble}, {head + "v T ::= {1 40} END", 0, api.ErrRange}, {head + "S C ::= {o | o} END", 0, api.ErrDouble}, {head + "C ::= CLASS {&a NULL, &a NULL} END", 0, api.ErrDouble}, {"M DEFINITIONS EXPLICIT TAGS ::= BEGIN EXPORTS a; END", 0, api.ErrMissing}, {head + strings.Repeat("T ::= NULL ", api.MaxAssigned+1) + "END", 0, api.ErrLarge},
		{head + "# END", 47, api.ErrSyntax}, {head + "/* END", 47, api.ErrOpen},
	})
}

// P2.5: types, constraints and values more than 20 deep are ErrLarge at a token, also if this cannot stand there, but not at the end.
func TestDeepTexts(t *testing.T) {
	lists := strings.Repeat("SEQUENCE OF ", 20)
	less := lists[12:]
	wantMisread(t, readType, []misread{
		{lists, 240, api.ErrEnd}, {lists + "NULL", 240, api.ErrLarge}, {lists + ")", 240, api.ErrLarge}, {lists + "[5] NULL", 240, api.ErrLarge}, {lists + "SEQUENCE OF NULL", 240, api.ErrLarge},
		{less + "NULL", 0, api.ErrLarge}, {less + "INTEGER (", 237, api.ErrEnd}, {less + "INTEGER (1)", 237, api.ErrLarge}, {less + "SEQUENCE (SIZE (1)) OF NULL", 238, api.ErrLarge}, {less[12:] + "INTEGER (1)", 0, api.ErrLarge},
	})
	// The type is 1 deep, what stands in its first parentheses 2.
	open, closed := "T "+strings.Repeat("(", 19), strings.Repeat(")", 19)
	sizes := "T " + strings.Repeat("(", 9) + "SIZE " + strings.Repeat("(", 10)
	wantMisread(t, readType, []misread{
		{open + "1" + closed, 41, api.OK}, {open + "(1)" + closed, 22, api.ErrLarge}, {open + "()" + closed, 22, api.ErrLarge}, {open + "(", 22, api.ErrEnd},
		{sizes + "1" + closed, len(sizes) + 20, api.OK}, {sizes + "(1)" + closed, len(sizes) + 1, api.ErrLarge}, {open + "SIZE (1)" + closed, 27, api.ErrLarge}, {open + `FROM ("a")` + closed, 27, api.ErrLarge},
	})
	// What stands side by side is not deep.
	side := strings.Repeat("((1)) | ", 9) + "((1))"
	var wide []string
	for i := range api.MaxFields {
		wide = append(wide, fmt.Sprintf("f%d T (SIZE (1)) DEFAULT {1}", i))
	}
	for _, s := range []string{"T (" + side + ")", "T (SIZE (" + side[:len(side)-8] + "))", "SEQUENCE {" + strings.Join(wide, ", ") + "}"} {
		wantMisread(t, readType, []misread{{s, len(s), api.OK}})
	}
	braces := strings.Repeat("{", 20)
	wantMisread(t, readType, []misread{
		{"SEQUENCE {a T DEFAULT " + braces, 41, api.ErrLarge}, {"SEQUENCE {a T DEFAULT " + braces[1:], 41, api.ErrEnd}, {"SEQUENCE {a T DEFAULT " + braces[1:] + strings.Repeat("}", 20), 0, api.ErrLarge},
	})
	wantMisread(t, readPlain, []misread{
		{braces, 20, api.ErrEnd}, {braces + "{", 20, api.ErrLarge}, {braces + ")", 20, api.ErrLarge}, {braces + "1 2}", 20, api.ErrLarge}, {braces + "}", 21, api.ErrEnd}, {braces + strings.Repeat("}", 20), 0, api.ErrLarge},
		{braces + "a 1", 22, api.ErrLarge}, {braces[1:] + "a: 1", 22, api.ErrLarge}, {strings.Repeat("a: ", 20) + "1", 60, api.ErrLarge}, {strings.Repeat("T: ", 20) + "a", 60, api.ErrLarge}, {strings.Repeat("T: ", 19) + "a", 0, api.ErrLarge},
	})
	before := strings.Index(wholeModule("!"), "!")
	wantMisread(t, readModule, []misread{
		{wholeModule("T ::= " + lists + "NULL"), before + 6 + 240, api.ErrLarge}, {wholeModule("v T ::= " + braces + "1"), before + 8 + 20, api.ErrLarge},
	})
}
