package notation_test

import (
	"fmt"
	"slices"
	"strings"
	"testing"

	"examiner/api"
	"examiner/notation"
)

// typeTexts are canonical texts, and what has them.
func typeTexts() map[string]api.Type {
	integer := kind(api.TypeInt)
	ia5 := stringType(api.Ia5)
	return map[string]api.Type{
		"NULL": null(), "BOOLEAN": kind(api.TypeBool), "INTEGER": integer, "BIT STRING": kind(api.TypeBits), "OCTET STRING": kind(api.TypeOctets), "OBJECT IDENTIFIER": kind(api.TypeOid), "REAL": kind(api.TypeReal),
		"NumericString": stringType(api.Numeric), "PrintableString": stringType(api.Printable), "VisibleString": stringType(api.Visible), "IA5String": ia5,
		"T": ref("T"), "T-1": ref("T-1"), "T {NULL}": actual("T", null()), "T {NULL, U {V}, SEQUENCE OF W, INTEGER (1)} (2)": limited(actual("T", null(), actual("U", ref("V")), listOf(ref("W")), limited(integer, span(1, 1))), span(2, 2)),
		"C.&id ({S})": classField("id", "C", "S"), "C.&Type ({S} {@i})": classField("Type", "C", "S", "i"),
		"[5] NULL": tagged(null(), context(5, 0)), "[APPLICATION 0] IMPLICIT [PRIVATE 100000] EXPLICIT [7] IMPLICIT NULL": tagged(null(), api.Tag{Class: api.ClassApplication, Way: api.TagImplicit}, api.Tag{Class: api.ClassPrivate, Number: api.MaxTag, Way: api.TagExplicit}, context(7, api.TagImplicit)),
		"[5] IMPLICIT INTEGER (0..7 | 9)": tagged(limited(integer, span(0, 7), span(9, 9), node(api.LimitUnion, 0, 1)), context(5, api.TagImplicit)),
		"ENUMERATED {a (0)}":              fields(api.TypeEnum, item("a", 0)), "ENUMERATED {a (0), b (- 5), ..., c-d (7)}": opened(fields(api.TypeEnum, item("a", 0), item("b", -5), item("c-d", 7)), 2), "ENUMERATED {a (1152921504606846976), ...}": opened(fields(api.TypeEnum, item("a", api.MaxInteger)), 1),
		"SEQUENCE {}": fields(api.TypeRecord), "SEQUENCE {...}": opened(fields(api.TypeRecord), 0), "SET {a NULL}": fields(api.TypeSet, field("a", null())), "SET {..., a NULL}": opened(fields(api.TypeSet, field("a", null())), 0), "CHOICE {a NULL, ...}": opened(fields(api.TypeUnion, field("a", null())), 1),
		"SEQUENCE {a BOOLEAN, b INTEGER DEFAULT 5, ..., [[c NULL]]}":                                       opened(fields(api.TypeRecord, field("a", kind(api.TypeBool)), defaulted(field("b", integer), number(5)), grouped(field("c", null()), 1)), 2),
		"SEQUENCE {a [0] NULL OPTIONAL, b T DEFAULT {x 1}}":                                                fields(api.TypeRecord, optional(field("a", tagged(null(), context(0, 0)))), defaulted(field("b", ref("T")), record("x", number(1)))),
		"SET {a NULL, ..., [[b NULL OPTIONAL, c NULL]], [[d NULL]], e NULL, [[f T DEFAULT a: b, g NULL]]}": opened(fields(api.TypeSet, field("a", null()), optional(grouped(field("b", null()), 1)), grouped(field("c", null()), 1), grouped(field("d", null()), 2), field("e", null()), defaulted(grouped(field("f", ref("T")), 3), union("a", enum("b"))), grouped(field("g", null()), 3)), 1),
		"CHOICE {a NULL, ..., [[b NULL, c NULL]]}":                                                         opened(fields(api.TypeUnion, field("a", null()), grouped(field("b", null()), 1), grouped(field("c", null()), 1)), 1),
		"SEQUENCE {..., [[a NULL]]}":                                                                       opened(fields(api.TypeRecord, grouped(field("a", null()), 1)), 0),
		"SEQUENCE OF NULL":                                                                                 listOf(null()),
		"[1] SET (SIZE (2)) OF [2] SEQUENCE (SIZE (1..3)) OF INTEGER (0..3)":                               tagged(limited(api.Type{Kind: api.TypeBag, Of: []api.Type{tagged(limited(listOf(limited(integer, span(0, 3))), span(1, 3), node(api.LimitSize, 0)), context(2, 0))}}, span(2, 2), node(api.LimitSize, 0)), context(1, 0)),
		"T (SIZE (3))":                                          limited(ref("T"), span(3, 3), node(api.LimitSize, 0)),
		"INTEGER (MIN..MAX)":                                    limited(integer, span(-api.MaxInteger, api.MaxInteger)),
		"INTEGER (MAX..MIN)":                                    limited(integer, span(api.MaxInteger, -api.MaxInteger)),
		"INTEGER (- 5..0)":                                      limited(integer, span(-5, 0)),
		"INTEGER (- 5)":                                         limited(integer, span(-5, -5)),
		"INTEGER (5..3)":                                        limited(integer, span(5, 3)),
		"INTEGER (MAX)":                                         limited(integer, span(api.MaxInteger, api.MaxInteger)),
		"INTEGER (MIN)":                                         limited(integer, span(-api.MaxInteger, -api.MaxInteger)),
		"INTEGER (- 1152921504606846975)":                       limited(integer, span(1-api.MaxInteger, 1-api.MaxInteger)),
		"INTEGER (1152921504606846975)":                         limited(integer, span(api.MaxInteger-1, api.MaxInteger-1)),
		"INTEGER (MAX | MIN..0, ..., 5 EXCEPT MIN)":             limited(integer, span(api.MaxInteger, api.MaxInteger), span(-api.MaxInteger, 0), node(api.LimitUnion, 0, 1), span(5, 5), span(-api.MaxInteger, -api.MaxInteger), node(api.LimitWithout, 3, 4), node(api.LimitMarker, 2, 5)),
		"T (SIZE (MAX | MIN) ^ MIN)":                            limited(ref("T"), span(api.MaxInteger, api.MaxInteger), span(-api.MaxInteger, -api.MaxInteger), node(api.LimitUnion, 0, 1), node(api.LimitSize, 2), span(-api.MaxInteger, -api.MaxInteger), node(api.LimitBoth, 3, 4)),
		"INTEGER (1..5, ...)":                                   limited(integer, span(1, 5), node(api.LimitMarker, 0)),
		"INTEGER (1..5, ..., 8 | 9)":                            limited(integer, span(1, 5), span(8, 8), span(9, 9), node(api.LimitUnion, 1, 2), node(api.LimitMarker, 0, 3)),
		"INTEGER (1 | 2 ^ 3 EXCEPT 4)":                          limited(integer, span(1, 1), span(2, 2), span(3, 3), span(4, 4), node(api.LimitWithout, 2, 3), node(api.LimitBoth, 1, 4), node(api.LimitUnion, 0, 5)),
		"INTEGER (1 | 2 | 3)":                                   limited(integer, span(1, 1), span(2, 2), node(api.LimitUnion, 0, 1), span(3, 3), node(api.LimitUnion, 2, 3)),
		"INTEGER (1 | (2 | 3))":                                 limited(integer, span(1, 1), span(2, 2), span(3, 3), node(api.LimitUnion, 1, 2), node(api.LimitUnion, 0, 3)),
		"INTEGER (1 ^ 2 ^ 3)":                                   limited(integer, span(1, 1), span(2, 2), node(api.LimitBoth, 0, 1), span(3, 3), node(api.LimitBoth, 2, 3)),
		"INTEGER (1 ^ (2 ^ 3))":                                 limited(integer, span(1, 1), span(2, 2), span(3, 3), node(api.LimitBoth, 1, 2), node(api.LimitBoth, 0, 3)),
		"INTEGER ((1 | 2) ^ (3 | 4))":                           limited(integer, span(1, 1), span(2, 2), node(api.LimitUnion, 0, 1), span(3, 3), span(4, 4), node(api.LimitUnion, 3, 4), node(api.LimitBoth, 2, 5)),
		"INTEGER (1 ^ 2 | 3 ^ 4)":                               limited(integer, span(1, 1), span(2, 2), node(api.LimitBoth, 0, 1), span(3, 3), span(4, 4), node(api.LimitBoth, 3, 4), node(api.LimitUnion, 2, 5)),
		"INTEGER ((1 | 2) EXCEPT (3 | 4))":                      limited(integer, span(1, 1), span(2, 2), node(api.LimitUnion, 0, 1), span(3, 3), span(4, 4), node(api.LimitUnion, 3, 4), node(api.LimitWithout, 2, 5)),
		"INTEGER ((1 ^ 2) EXCEPT (3 EXCEPT 4))":                 limited(integer, span(1, 1), span(2, 2), node(api.LimitBoth, 0, 1), span(3, 3), span(4, 4), node(api.LimitWithout, 3, 4), node(api.LimitWithout, 2, 5)),
		"INTEGER ((1 EXCEPT 2) EXCEPT (3 ^ 4))":                 limited(integer, span(1, 1), span(2, 2), node(api.LimitWithout, 0, 1), span(3, 3), span(4, 4), node(api.LimitBoth, 3, 4), node(api.LimitWithout, 2, 5)),
		"INTEGER (1 EXCEPT 2 | 3 EXCEPT 4)":                     limited(integer, span(1, 1), span(2, 2), node(api.LimitWithout, 0, 1), span(3, 3), span(4, 4), node(api.LimitWithout, 3, 4), node(api.LimitUnion, 2, 5)),
		`IA5String (FROM ("a".."c"))`:                           limited(ia5, span('a', 'c'), node(api.LimitFrom, 0)),
		`IA5String (FROM ("a".."a"))`:                           limited(ia5, span('a', 'a'), node(api.LimitFrom, 0)),
		`IA5String (FROM ("a"))`:                                limited(ia5, text("a"), node(api.LimitFrom, 0)),
		`IA5String (FROM (" ".."~" | """".."""" | "" | "a"""))`: limited(ia5, span(' ', '~'), span('"', '"'), node(api.LimitUnion, 0, 1), text(""), node(api.LimitUnion, 2, 3), text(`a"`), node(api.LimitUnion, 4, 5), node(api.LimitFrom, 6)),
		`IA5String (SIZE (1..2 | 5 EXCEPT 5) ^ FROM ("x".."z") | "abc", ..., "d")`: limited(ia5, span(1, 2), span(5, 5), span(5, 5), node(api.LimitWithout, 1, 2), node(api.LimitUnion, 0, 3), node(api.LimitSize, 4), span('x', 'z'), node(api.LimitFrom, 6), node(api.LimitBoth, 5, 7), text("abc"), node(api.LimitUnion, 8, 9), text("d"), node(api.LimitMarker, 10, 11)),
		`T ("a")`: limited(ref("T"), text("a")), "BIT STRING ('01'B | ''B)": limited(kind(api.TypeBits), text("01"), text(""), node(api.LimitUnion, 0, 1)), `OCTET STRING ('00FFA5'H)`: limited(kind(api.TypeOctets), text("\x00\xff\xa5")),
		"BIT STRING (FROM ('1'B))": limited(kind(api.TypeBits), text("1"), node(api.LimitFrom, 0)), `OCTET STRING (FROM ("a".."b"))`: limited(kind(api.TypeOctets), span('a', 'b'), node(api.LimitFrom, 0)), "IA5String (5)": limited(ia5, span(5, 5)),
	}
}

// plainTexts are canonical texts, and the plain values that have them.
func plainTexts() map[string]api.Value {
	return map[string]api.Value{
		"NULL": {}, "TRUE": truth(1), "FALSE": truth(0), "0": number(0), "1152921504606846976": number(api.MaxInteger), "- 1152921504606846976": number(-api.MaxInteger), "a-b": enum("a-b"),
		"'0101'B": bits("0101"), "''B": bits(""), "'00FF'H": octets("\x00\xff"), "''H": octets(""), `"a"`: chars("a"), `""`: chars(""), `"a""b"`: chars(`a"b`), `""""`: chars(`"`), `" ~"`: chars(" ~"),
		"{1 2}": oid(1, 2), "{2 100 0 7}": oid(2, 100, 0, 7), "{mantissa 5, base 2, exponent 3}": real(5, 3), "{mantissa - 5, base 2, exponent - 1000}": real(-5, -1000), "{mantissa 0, base 2, exponent 0}": real(0, 0),
		"{}": list(), "{1}": list(number(1)), "{1, - 2}": list(number(1), number(-2)), "{a}": list(enum("a")), "{a, b}": list(enum("a"), enum("b")), "{a: b}": list(union("a", enum("b"))), "{{}}": list(list()), "{{1 2}, {}}": list(oid(1, 2), list()), "{T: a}": list(open("T", enum("a"))),
		"{a b}": record("a", enum("b")), "{a 1, b {}}": record("a b", number(1), list()), "{a {b c}}": record("a", record("b", enum("c"))), "{a b: c, d {a: b}}": record("a d", union("b", enum("c")), list(union("a", enum("b")))), "{a - 1}": record("a", number(-1)),
		"{mantissa 5}": record("mantissa", number(5)), "{mantissa 5, base 2}": record("mantissa base", number(5), number(2)), "{mantissa 5, base 2, exponent 3, z NULL}": record("mantissa base exponent z", number(5), number(2), number(3), api.Value{}), "{base 2, mantissa 5, exponent 3}": record("base mantissa exponent", number(2), number(5), number(3)),
		"a: 5": union("a", number(5)), "a: b: c": union("a", union("b", enum("c"))), "T: 5": open("T", number(5)), "T: U: a: {}": open("T", open("U", union("a", list()))),
	}
}

const largeModuleText = `M DEFINITIONS IMPLICIT TAGS ::= BEGIN
EXPORTS T, v, a, B;
IMPORTS a, B FROM N c FROM O;
T ::= INTEGER
P {X, Y} ::= SEQUENCE {a X, b Y}
v T ::= 5
C ::= CLASS {&id INTEGER UNIQUE, &Type OPTIONAL, &x T UNIQUE OPTIONAL, &y NULL}
o C ::= {&id 1, &Type NULL, &y NULL}
S C ::= {o | o2, ...}
S2 C ::= {}
S3 C ::= {...}
S4 D ::= {o}
U ::= SEQUENCE {i C.&id ({S}), v C.&Type ({S} {@i})}
END`

func TestTypesWritten(t *testing.T) {
	for want, y := range typeTexts() {
		if s, e := notation.FormatType(y); s != want || e != api.OK {
			t.Errorf("%q, %d, want %q", s, e, want)
		}
	}
}

func TestPlainValuesWritten(t *testing.T) {
	for want, v := range plainTexts() {
		if s, e := notation.FormatPlain(v); s != want || e != api.OK {
			t.Errorf("%q, %d, want %q", s, e, want)
		}
	}
}

func TestModulesWritten(t *testing.T) {
	for want, m := range map[string]api.AsnModule{
		largeModuleText: largeModule(),
		"M-1 DEFINITIONS EXPLICIT TAGS ::= BEGIN\nEXPORTS ALL;\nEND":                                                       {Name: "M-1", All: true},
		"M DEFINITIONS AUTOMATIC TAGS ::= BEGIN\nEXPORTS;\nIMPORTS A FROM N;\nEND":                                         {Name: "M", Way: api.WayAutomatic, Imports: []api.Import{{Module: "N", Names: []string{"A"}}}},
		wholeModule("v [0] SEQUENCE {a NULL} ::= {}\nw C.&id ({S}) ::= a: 5\nT {A} ::= T {A}"):                             {Name: "M", Way: api.WayAutomatic, All: true, Items: []api.Assigned{{Kind: api.ItemValue, Name: "v", Type: tagged(fields(api.TypeRecord, field("a", null())), context(0, 0)), Value: list()}, {Kind: api.ItemValue, Name: "w", Type: classField("id", "C", "S"), Value: union("a", number(5))}, {Kind: api.ItemType, Name: "T", Params: []string{"A"}, Type: actual("T", ref("A"))}}},
		"M DEFINITIONS EXPLICIT TAGS ::= BEGIN\nEXPORTS;\nb INTEGER ::= - 5\nc E ::= a\nT {X} ::= NULL\nd U ::= T: a\nEND": {Name: "M", Items: []api.Assigned{{Kind: api.ItemValue, Name: "b", Type: kind(api.TypeInt), Value: number(-5)}, {Kind: api.ItemValue, Name: "c", Type: ref("E"), Value: enum("a")}, {Name: "T", Params: []string{"X"}}, {Kind: api.ItemValue, Name: "d", Type: ref("U"), Value: open("T", enum("a"))}}},
	} {
		if s, e := notation.FormatModule(m); s != want || e != api.OK {
			t.Errorf("%q, %d, want %q", s, e, want)
		}
		if m2, n, e := notation.ParseModule(want); !alike(m2, m) || n != len(want) || e != api.OK {
			t.Errorf("%q: %+v, %d, %d", want, m2, n, e)
		}
	}
}

// refusedValues are values that are right, and not plain.
func refusedValues() map[string]api.Value {
	out := map[string]api.Value{
		"bag": items(api.ValueBag), "verdict": {Kind: api.ValueVerdict, N: 1}, "no fields": record(""), "like a real": record("mantissa base exponent", number(5), number(2), number(3)), "named like a real": record("mantissa base exponent", list(), list(), list()), "octets": open("", octets("a")),
		"control": chars("a\n"), "127": chars("\x7f"), "31": chars("\x1f"), "long octets": octets(strings.Repeat("a", api.MaxString/2+1)), "long with marks": chars(strings.Repeat(`"`, api.MaxString/2+1)), "long with a mark": chars(`"` + strings.Repeat("a", api.MaxString-1)),
		"capital item": enum("A"), "capital field": record("a B", number(1), number(2)), "capital alternative": union("A", number(1)), "small type": open("t", number(1)),
	}
	for _, name := range []string{"a_b", "TRUE", "INTEGER", "END"} {
		out["item "+name] = enum(name)
		out["field "+name] = record(name, number(1))
		out["alternative "+name] = union(name, number(1))
		out["type "+name] = open(name, number(1))
	}
	return out
}

func TestPlainValuesRefused(t *testing.T) {
	refused := func(what string, v api.Value) {
		t.Helper()
		if s, e := notation.FormatPlain(v); s != "" || e != api.ErrRefused {
			t.Errorf("%s: %q, error %d", what, s, e)
		}
	}
	for what, v := range refusedValues() {
		refused(what, v)
		refused(what+" in a list", list(number(1), v))
		refused(what+" in a record", record("a b", number(1), v))
		refused(what+" in a union", union("a", v))
		refused(what+" in an open value", open("T", v))
		y := fields(api.TypeRecord, defaulted(field("a", null()), v))
		if s, e := notation.FormatType(y); s != "" || e != api.ErrRefused {
			t.Errorf("%s as a default: %q, error %d", what, s, e)
		}
		m := largeModule()
		m.Items[itemV].Value = v
		if s, e := notation.FormatModule(m); s != "" || e != api.ErrRefused {
			t.Errorf("%s in a module: %q, error %d", what, s, e)
		}
	}
	for what, x := range wrongValues() {
		if s, e := notation.FormatPlain(x.v); s != "" || e != x.want {
			t.Errorf("%s: %q, error %d, want %d", what, s, e, x.want)
		}
	}
}

// refusedTypes are types that are right, and have no text.
func refusedTypes() map[string]api.Type {
	integer, ia5 := kind(api.TypeInt), stringType(api.Ia5)
	from, size := node(api.LimitFrom, 0), node(api.LimitSize, 0)
	out := map[string]api.Type{
		"open": kind(api.TypeOpen), "capital field": fields(api.TypeRecord, field("A", null())), "capital item": fields(api.TypeEnum, item("A", 0)), "capital alternative": fields(api.TypeUnion, field("A", null())), "small reference": ref("t"),
		"small class": classField("id", "c", "S"), "small set": classField("id", "C", "s"), "capital component": classField("id", "C", "S", "I"), "class": classField("id", "C_", "S"), "set": classField("id", "C", "SET"), "component": classField("id", "C", "S", "a_"), "field of a class": classField("i_d", "C", "S"),
		"text of INTEGER": limited(integer, text("a")), "text of a list": limited(listOf(null()), text("a")), "text of a bag": limited(api.Type{Kind: api.TypeBag, Of: []api.Type{null()}}, text("")), "text in FROM of INTEGER": limited(integer, text("a"), from),
		"bits": limited(kind(api.TypeBits), text("012")), "control": limited(ia5, text("\n")), "127": limited(ia5, text("a\x7f")), "128": limited(ia5, text("\x80")), "text of a reference": limited(ref("T"), text("\x1f")), "31 in FROM": limited(ia5, text("\x1f"), from),
		"long text": limited(ia5, text(strings.Repeat("a", api.MaxString+1))), "long with a mark": limited(ia5, text(`"`+strings.Repeat("a", api.MaxString-1))), "long bits": limited(kind(api.TypeBits), text(strings.Repeat("1", api.MaxString+1))), "long octets": limited(kind(api.TypeOctets), text(strings.Repeat("a", api.MaxString/2+1))),
		"range in FROM below": limited(ia5, span(31, 'a'), from), "range in FROM above": limited(ia5, span('a', 127), from), "great in FROM": limited(ia5, span('a', 'a'+256), from), "great below": limited(ia5, span('a'-256, 'b'), from), "very great in FROM": limited(ia5, span('a', 'a'+1<<32), from), "very small in FROM": limited(ia5, span('a'-1<<32, 'a'), from),
		"SIZE in FROM": limited(ia5, span('a', 'b'), size, node(api.LimitFrom, 1)), "FROM in FROM": limited(ia5, span('a', 'b'), from, node(api.LimitFrom, 1)), "text in SIZE": limited(ia5, text("a"), size), "SIZE in SIZE": limited(ia5, span(1, 1), size, node(api.LimitSize, 1)), "FROM in SIZE": limited(ia5, span('a', 'b'), from, node(api.LimitSize, 1)),
		"SIZE within FROM": limited(ia5, text("a"), span(1, 1), node(api.LimitSize, 1), node(api.LimitUnion, 0, 2), node(api.LimitFrom, 3)), "text within SIZE": limited(ia5, span(1, 1), text("a"), node(api.LimitWithout, 0, 1), node(api.LimitSize, 2)),
		"marker in SIZE": limited(ia5, span(1, 1), node(api.LimitMarker, 0), node(api.LimitSize, 1)), "marker in |": limited(integer, span(1, 1), node(api.LimitMarker, 0), span(2, 2), node(api.LimitUnion, 1, 2)), "second marker in ^": limited(integer, span(1, 1), span(2, 2), node(api.LimitMarker, 1), node(api.LimitBoth, 0, 2)), "marker in EXCEPT": limited(integer, span(1, 1), node(api.LimitMarker, 0), span(2, 2), node(api.LimitWithout, 1, 2)), "marker in a marker": limited(integer, span(1, 1), node(api.LimitMarker, 0), node(api.LimitMarker, 1)), "marker in additions": limited(integer, span(1, 1), span(2, 2), node(api.LimitMarker, 1), node(api.LimitMarker, 0, 2)),
		"great number": limited(integer, span(0, api.MaxInteger+1)), "small number": limited(integer, span(-api.MaxInteger-1, 0)), "one great number": limited(integer, span(1<<62, 1<<62)),
	}
	for _, name := range []string{"a_b", "TRUE", "INTEGER", "END", "A_"} {
		out["field "+name] = fields(api.TypeSet, field(name, null()))
		out["item "+name] = fields(api.TypeEnum, item(name, 0))
		out["reference "+name] = ref(name)
	}
	return out
}

func TestTypesRefusedInTexts(t *testing.T) {
	for what, y := range refusedTypes() {
		wantErr(t, what+" is right", notation.CheckType(y), api.OK)
		for _, z := range []api.Type{y, listOf(y), fields(api.TypeRecord, field("x", null()), field("y", y)), actual("T", y)} {
			if s, e := notation.FormatType(z); s != "" || e != api.ErrRefused {
				t.Errorf("%s: %q, error %d", what, s, e)
			}
		}
		m := largeModule()
		m.Items[itemT].Type = y
		if s, e := notation.FormatModule(m); s != "" || e != api.ErrRefused {
			t.Errorf("%s in a module: %q, error %d", what, s, e)
		}
		m = largeModule()
		m.Items[itemC].Class[0].Fixed[0] = y
		if s, e := notation.FormatModule(m); s != "" || e != api.ErrRefused {
			t.Errorf("%s in a class: %q, error %d", what, s, e)
		}
	}
	for what, x := range wrongTypes() {
		if s, e := notation.FormatType(x.y); s != "" || e != x.want {
			t.Errorf("%s: %q, error %d, want %d", what, s, e, x.want)
		}
	}
	for _, f := range append(headFaults(), itemFaults()...) {
		m := largeModule()
		f.add(&m)
		if s, e := notation.FormatModule(m); s != "" || e != f.want {
			t.Errorf("%s: %q, error %d, want %d", f.what, s, e, f.want)
		}
	}
}

// P2.4: strings whose token is just not too long.
func TestLongTokens(t *testing.T) {
	for _, v := range []api.Value{
		chars(strings.Repeat("a", api.MaxString)), chars(strings.Repeat(`"`, api.MaxString/2)), chars(`"` + strings.Repeat("a", api.MaxString-2)), octets(strings.Repeat("\xfe", api.MaxString/2)), bits(strings.Repeat("1", api.MaxString)),
	} {
		s, e := notation.FormatPlain(v)
		wantErr(t, "a long token", e, api.OK)
		if back := plainOf(t, s); !alike(back, v) {
			t.Errorf("%q is read as %+v", s, back)
		}
	}
}

// P2.4: texts with as many characters, or tokens, as a text may have, and with more.
func TestLargeTexts(t *testing.T) {
	// Each string of 200 characters is 202 in the text, and ", " or braces are around it.
	long := func(n, last int) api.Value {
		v := list()
		for range n {
			v.Items = append(v.Items, chars(strings.Repeat("a", api.MaxString)))
		}
		v.Items = append(v.Items, chars(strings.Repeat("a", last)))
		return v
	}
	for _, x := range []struct {
		v    api.Value
		n    int
		want api.Errno
	}{
		{long(39, 40), 39*204 + 42 + 2, api.OK}, {long(39, 40-(39*204+44-api.MaxText)), api.MaxText, api.OK}, {long(39, 41-(39*204+44-api.MaxText)), 0, api.ErrLarge}, {long(39, api.MaxString), 0, api.ErrLarge},
	} {
		s, e := notation.FormatPlain(x.v)
		if e != x.want || len(s) != x.n && x.n <= api.MaxText {
			t.Errorf("%d characters, error %d, want %d, %d", len(s), e, x.n, x.want)
		}
	}
}

// P2.4: a module of 1500 tokens: 10 around the items, and 3n + 4 for a type of n fields.
func TestModulesOfManyTokens(t *testing.T) {
	m := api.AsnModule{Name: "M", All: true}
	for i, n := range append(slices.Repeat([]int{16}, 28), 10) {
		m.Items = append(m.Items, api.Assigned{Name: fmt.Sprintf("T%d", i), Type: wide(n)})
	}
	s, e := notation.FormatModule(m)
	wantErr(t, "as many tokens as there may be", e, api.OK)
	if back := moduleOf(t, s); !alike(back, m) {
		t.Errorf("%q is read as another module", s)
	}
	f := &m.Items[0].Type.Fields[0]
	*f = optional(*f)
	if s, e := notation.FormatModule(m); s != "" || e != api.ErrLarge {
		t.Errorf("one token more: %d characters, error %d", len(s), e)
	}
	f.Name = "A"
	_, e = notation.FormatModule(m)
	wantErr(t, "a name that is refused before", e, api.ErrRefused)
}
