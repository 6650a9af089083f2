package modules_test

import (
	"fmt"
	"slices"
	"strings"
	"testing"

	"examiner/api"
	"examiner/modules"
)

// P6.2: which types a schema has, and their names.
func TestTypesOfSchemas(t *testing.T) {
	for _, x := range []struct{ texts, want []string }{
		{[]string{"M EXPLICIT "}, nil},
		{[]string{"M EXPLICIT v BOOLEAN ::= TRUE"}, nil},
		{[]string{"M EXPLICIT B ::= NULL A ::= B"}, []string{"A ::= B", "B ::= NULL"}},
		// those of other modules that are reached
		{[]string{"M EXPLICIT IMPORTS T FROM N; A ::= T", "N EXPLICIT T ::= SEQUENCE OF U U ::= NULL V ::= REAL"}, []string{"A ::= N_T", "N_T ::= SEQUENCE OF N_U", "N_U ::= NULL"}},
		{[]string{"M EXPLICIT IMPORTS T FROM N; A ::= NULL", "N EXPLICIT T ::= NULL"}, []string{"A ::= NULL"}},
		{[]string{"M EXPLICIT IMPORTS T FROM N; v SEQUENCE OF T ::= {}", "N EXPLICIT T ::= U U ::= NULL"}, []string{"N_T ::= N_U", "N_U ::= NULL"}},
		{[]string{"M EXPLICIT IMPORTS v FROM N; A ::= NULL", "N EXPLICIT v T ::= NULL T ::= NULL"}, []string{"A ::= NULL"}},
		{[]string{"M EXPLICIT IMPORTS T FROM N U FROM O; A ::= SEQUENCE {t T, u U}", "N EXPLICIT T ::= CHOICE {a U} U ::= NULL", "O EXPLICIT IMPORTS T FROM N; U ::= SET OF T"},
			[]string{"A ::= SEQUENCE {t N_T, u O_U}", "N_T ::= CHOICE {a N_U}", "N_U ::= NULL", "O_U ::= SET OF N_T"}},
		// what another module imports is that of its own module
		{[]string{"M EXPLICIT IMPORTS T FROM N; A ::= T", "N EXPLICIT IMPORTS T FROM O;", "O EXPLICIT T ::= NULL"}, []string{"A ::= O_T", "O_T ::= NULL"}},
		{[]string{"M EXPLICIT IMPORTS T FROM N; A ::= SEQUENCE OF T B ::= REAL", "N EXPLICIT IMPORTS A FROM M; T ::= SET {a A, b B} B ::= NULL"},
			[]string{"A ::= SEQUENCE OF N_T", "B ::= REAL", "N_B ::= NULL", "N_T ::= SET {a A, b N_B}"}},
		// ascending: capitals, then _, then small letters
		{[]string{"N EXPLICIT IMPORTS A FROM M B FROM Ma; MZ ::= A Mz ::= B M ::= NULL", "M EXPLICIT A ::= NULL", "Ma EXPLICIT B ::= NULL"},
			[]string{"M ::= NULL", "MZ ::= M_A", "M_A ::= NULL", "Ma_B ::= NULL", "Mz ::= Ma_B"}},
	} {
		wantSchema(t, x.texts, schemaOf(t, x.want...), api.OK)
	}
}

// P6.2, step 1: COMPONENTS OF, within others first; what is put in stays as it is written.
func TestComponentsOfSchemas(t *testing.T) {
	for _, x := range []struct{ texts, want []string }{
		{[]string{"M EXPLICIT A ::= SEQUENCE {x NULL, components B, y NULL} B ::= SEQUENCE {b REAL, components C, ..., z NULL} C ::= SEQUENCE {c NULL}"},
			[]string{"A ::= SEQUENCE {x NULL, b REAL, c NULL, y NULL}", "B ::= SEQUENCE {b REAL, c NULL, ..., z NULL}", "C ::= SEQUENCE {c NULL}"}},
		{[]string{"M EXPLICIT A ::= SET OF SEQUENCE {a SET {components C}, components B} B ::= SEQUENCE {b REAL} C ::= SET {c NULL}"},
			[]string{"A ::= SET OF SEQUENCE {a SET {c NULL}, b REAL}", "B ::= SEQUENCE {b REAL}", "C ::= SET {c NULL}"}},
		{[]string{"M EXPLICIT A ::= SEQUENCE {components B} B ::= SEQUENCE {b SEQUENCE {components C}} C ::= SEQUENCE {c NULL}"},
			[]string{"A ::= SEQUENCE {b SEQUENCE {components C}}", "B ::= SEQUENCE {b SEQUENCE {c NULL}}", "C ::= SEQUENCE {c NULL}"}},
		{[]string{"M EXPLICIT A ::= SEQUENCE {x SEQUENCE {components A} OPTIONAL}"}, []string{"A ::= SEQUENCE {x SEQUENCE {x SEQUENCE {components A} OPTIONAL} OPTIONAL}"}},
		// what is none
		{[]string{"M EXPLICIT A ::= CHOICE {components B} B ::= SEQUENCE {components [1] EXPLICIT C, components-2 C} C ::= SEQUENCE {components C OPTIONAL}"},
			[]string{"A ::= CHOICE {components B}", "B ::= SEQUENCE {components [1] EXPLICIT C, components-2 C}", "C ::= SEQUENCE {components C OPTIONAL}"}},
		// from another module
		{[]string{"M EXPLICIT IMPORTS T FROM N; A ::= SEQUENCE {components T}", "N EXPLICIT T ::= SEQUENCE {t U} U ::= NULL"},
			[]string{"A ::= SEQUENCE {t N_U}", "N_T ::= SEQUENCE {t N_U}", "N_U ::= NULL"}},
	} {
		wantSchema(t, x.texts, schemaOf(t, x.want...), api.OK)
	}
}

// P6.2, step 2: references with constraints are the types themselves.
func TestLimitedReferences(t *testing.T) {
	for _, x := range []struct{ texts, want []string }{
		{[]string{"M EXPLICIT A ::= B (1..5) B ::= [1] EXPLICIT INTEGER (0..9)"}, []string{"A ::= [1] EXPLICIT INTEGER (0..9 ^ 1..5)", "B ::= [1] EXPLICIT INTEGER (0..9)"}},
		{[]string{"M EXPLICIT A ::= SEQUENCE {a [2] EXPLICIT B (1), b B} B ::= C C ::= [3] EXPLICIT INTEGER"}, []string{"A ::= SEQUENCE {a [2] EXPLICIT [3] EXPLICIT INTEGER (1), b B}", "B ::= C", "C ::= [3] EXPLICIT INTEGER"}},
		{[]string{"M EXPLICIT A ::= B (SIZE (2)) B ::= SEQUENCE OF C (3) C ::= D (0..5) D ::= INTEGER (1..9, ..., 20)"},
			[]string{"A ::= SEQUENCE (SIZE (2)) OF INTEGER (1..9 ^ (0..5 ^ 3))", "B ::= SEQUENCE OF INTEGER (1..9 ^ (0..5 ^ 3))", "C ::= INTEGER (1..9 ^ 0..5)", "D ::= INTEGER (1..9, ..., 20)"}},
		{[]string{"M EXPLICIT A ::= SET OF CHOICE {a SET OF B (SIZE (1))} B ::= IA5String (SIZE (0..5), ...)"}, []string{"A ::= SET OF CHOICE {a SET OF IA5String (SIZE (0..5) ^ SIZE (1))}", "B ::= IA5String (SIZE (0..5), ...)"}},
		{[]string{"M EXPLICIT IMPORTS T FROM N; A ::= T (3)", "N EXPLICIT T ::= U (0..5) U ::= INTEGER"}, []string{"A ::= INTEGER (0..5 ^ 3)", "N_T ::= INTEGER (0..5)", "N_U ::= INTEGER"}},
		// in what COMPONENTS OF puts in
		{[]string{"M EXPLICIT A ::= SEQUENCE {components B} B ::= SEQUENCE {b C (1)} C ::= INTEGER"}, []string{"A ::= SEQUENCE {b INTEGER (1)}", "B ::= SEQUENCE {b INTEGER (1)}", "C ::= INTEGER"}},
	} {
		wantSchema(t, x.texts, schemaOf(t, x.want...), api.OK)
	}
}

// P6.2, step 3: the types of each module are settled by its own way.
func TestSettledSchemas(t *testing.T) {
	const items = "T ::= [1] SEQUENCE {a NULL, b [2] U, c CHOICE {d REAL}} U ::= CHOICE {e BOOLEAN}"
	for _, x := range []struct{ texts, want []string }{
		{[]string{"M EXPLICIT " + items}, []string{"T ::= [1] EXPLICIT SEQUENCE {a NULL, b [2] EXPLICIT U, c CHOICE {d REAL}}", "U ::= CHOICE {e BOOLEAN}"}},
		{[]string{"M IMPLICIT " + items}, []string{"T ::= [1] IMPLICIT SEQUENCE {a NULL, b [2] EXPLICIT U, c CHOICE {d REAL}}", "U ::= CHOICE {e BOOLEAN}"}},
		{[]string{"M AUTOMATIC " + items}, []string{"T ::= [1] IMPLICIT SEQUENCE {a NULL, b [2] EXPLICIT U, c CHOICE {d [0] IMPLICIT REAL}}", "U ::= CHOICE {e [0] IMPLICIT BOOLEAN}"}},
		{[]string{"M EXPLICIT IMPORTS T FROM N; A ::= [5] T B ::= SEQUENCE {a NULL}", "N AUTOMATIC IMPORTS V FROM O; T ::= SEQUENCE {a V, b NULL}", "O IMPLICIT V ::= [6] CHOICE {c [7] NULL, d [PRIVATE 8] EXPLICIT NULL}"},
			[]string{"A ::= [5] EXPLICIT N_T", "B ::= SEQUENCE {a NULL}", "N_T ::= SEQUENCE {a [0] IMPLICIT O_V, b [1] IMPLICIT NULL}", "O_V ::= [6] EXPLICIT CHOICE {c [7] IMPLICIT NULL, d [PRIVATE 8] EXPLICIT NULL}"}},
		// behind the steps before: what was put in has the way of the module into which it was put
		{[]string{"M IMPLICIT IMPORTS T, U FROM N; A ::= SEQUENCE {components T, d U (1)}", "N EXPLICIT T ::= SEQUENCE {c [4] NULL} U ::= [3] INTEGER"},
			[]string{"A ::= SEQUENCE {c [4] IMPLICIT NULL, d [3] IMPLICIT INTEGER (1)}", "N_T ::= SEQUENCE {c [4] EXPLICIT NULL}", "N_U ::= [3] EXPLICIT INTEGER"}},
		{[]string{"M AUTOMATIC IMPORTS T FROM N; A ::= SEQUENCE {a NULL, components T, ..., b NULL}", "N EXPLICIT T ::= SEQUENCE {c NULL}"},
			[]string{"A ::= SEQUENCE {a [0] IMPLICIT NULL, c [1] IMPLICIT NULL, ..., b [2] IMPLICIT NULL}", "N_T ::= SEQUENCE {c NULL}"}},
		{[]string{"M AUTOMATIC A ::= B (SIZE (1)) B ::= SET OF SEQUENCE {a NULL}"}, []string{"A ::= SET (SIZE (1)) OF SEQUENCE {a [0] IMPLICIT NULL}", "B ::= SET OF SEQUENCE {a [0] IMPLICIT NULL}"}},
	} {
		wantSchema(t, x.texts, schemaOf(t, x.want...), api.OK)
	}
}

// putDefault returns a type in which a field has another default, which may have no text.
func putDefault(y api.Type, field int, v api.Value) api.Type {
	y.Fields = slices.Clone(y.Fields)
	y.Fields[field].Presence = api.FieldDefault
	y.Fields[field].Default = []api.Value{v}
	return y
}

// defaultIn returns the default of the first field of the type A of the first one of several modules.
func defaultIn(t *testing.T, l []api.AsnModule) (api.Value, api.Errno) {
	t.Helper()
	s, e := modules.SchemaOf(l, 0)
	if e != api.OK {
		return api.Value{}, e
	}
	return s[0].Type.Fields[0].Default[0], api.OK
}

// P6.2, step 4: defaults are adapted, and have their normal form.
func TestDefaultsOfSchemas(t *testing.T) {
	const more = " B ::= SET OF INTEGER R ::= SEQUENCE {r INTEGER DEFAULT 7, q B OPTIONAL} S ::= SET {s R DEFAULT {}} U ::= CHOICE {b B, r R, n NULL}"
	r := record("r", number(7))
	for _, x := range []struct {
		typ, text string
		want      api.Value
	}{
		{"INTEGER", "5", number(5)},
		{"B", "{3, 1, 2, 1}", bag(number(1), number(1), number(2), number(3))},
		{"B", "{}", bag()},
		{"R", "{}", r},
		{"S", "{}", record("s", r)},
		{"S", "{s {}}", record("s", r)},
		{"S", "{s {r 5, q {}}}", record("s", record("r q", number(5), bag()))},
		{"R", "{q {2, 1}, r 1}", record("r q", number(1), bag(number(1), number(2)))},
		{"U", "b: {2, 1}", union("b", bag(number(1), number(2)))},
		{"U", "r: {q {2, 1}}", union("r", record("r q", number(7), bag(number(1), number(2))))},
		{"U", "n: NULL", union("n", api.Value{})},
		{"SEQUENCE OF B", "{{2, 1}, {}}", list(bag(number(1), number(2)), bag())},
		{"SEQUENCE OF R", "{{}, {}}", list(r, r)},
		{"SEQUENCE OF INTEGER", "{2, 1}", list(number(2), number(1))},
		{"SET OF B", "{{2, 1}, {5}, {}}", bag(bag(), bag(number(1), number(2)), bag(number(5)))},
		{"SET OF R", "{{r 8}, {}}", bag(r, record("r", number(8)))},
		{"ANY", "B: {2, 1}", open("B", bag(number(1), number(2)))},
		{"ANY", "R: {}", open("R", r)},
		{"SEQUENCE {a SEQUENCE {}, ..., b INTEGER DEFAULT 5}", "{a {}, b 5}", record("a", record(""))},
	} {
		l := programOf(t, "M EXPLICIT A ::= SEQUENCE {a "+x.typ+"}"+more)
		l[0].Items[0].Type = putDefault(l[0].Items[0].Type, 0, plainOf(t, x.text))
		v, e := defaultIn(t, l)
		wantResult(t, x.typ+" DEFAULT "+x.text, v, e, x.want, api.OK)
	}
}

// P6.2: defaults within types within others, and in types of other modules.
func TestDefaultsWithin(t *testing.T) {
	wantSchema(t, []string{"M EXPLICIT IMPORTS B FROM N; A ::= SET OF CHOICE {a SEQUENCE {b B DEFAULT {}}}", "N EXPLICIT B ::= SEQUENCE {b C DEFAULT {}, c C OPTIONAL} C ::= SEQUENCE {...}"},
		func() api.Schema {
			s := schemaOf(t, "A ::= SET OF CHOICE {a SEQUENCE {b N_B}}", "N_B ::= SEQUENCE {b N_C, c N_C OPTIONAL}", "N_C ::= SEQUENCE {...}")
			inner := &s[0].Type.Of[0].Fields[0].Type
			*inner = putDefault(*inner, 0, record("b", record("")))
			s[1].Type = putDefault(s[1].Type, 0, record(""))
			return s
		}(), api.OK)
}

// P6.2: bags that no text has: what is in them is adapted, and they are bags again.
func TestBagsInDefaults(t *testing.T) {
	l := programOf(t, "M EXPLICIT A ::= SEQUENCE {a SET OF SET OF INTEGER}")
	v := bag(list(number(2)), list(number(3), number(1)))
	l[0].Items[0].Type = putDefault(l[0].Items[0].Type, 0, v)
	got, e := defaultIn(t, l)
	wantResult(t, "a bag of lists", got, e, bag(bag(number(1), number(3)), bag(number(2))), api.OK)
}

// P6.2: what is not adapted does not fit.
func TestDefaultsThatDoNotFit(t *testing.T) {
	const more = " B ::= SET OF INTEGER R ::= SEQUENCE {r INTEGER DEFAULT 7, q B OPTIONAL} U ::= CHOICE {b B, r R, n NULL} Y ::= [1] EXPLICIT [2] EXPLICIT [3] EXPLICIT Z Z ::= [4] EXPLICIT [5] EXPLICIT [6] EXPLICIT B"
	for _, x := range []struct {
		typ  string
		v    api.Value
		want api.Errno
	}{
		{"INTEGER (0..4)", number(5), api.ErrBound},
		{"R", list(number(5)), api.ErrType},
		{"NULL", list(), api.ErrType},
		{"INTEGER", bag(number(1)), api.ErrType},
		{"U", list(number(1)), api.ErrType},
		{"REAL", record("b", list()), api.ErrType},
		{"ANY", list(list()), api.ErrType},
		{"B", record(""), api.ErrType},
		{"U", list(), api.ErrType},
		{"U", union("c", list()), api.ErrMissing},
		{"U", record("b", list()), api.ErrType},
		{"R", union("q", list()), api.ErrType},
		{"R", record("x", list()), api.ErrMissing},
		{"SEQUENCE OF INTEGER", bag(number(1)), api.ErrType},
		{"SEQUENCE {a INTEGER}", list(), api.ErrUnbound},
		{"ANY", open("X", list()), api.ErrMissing},
		{"ANY", open("B", list(list())), api.ErrType},
		{"Y", list(number(5)), api.OK},
		{"[7] EXPLICIT Y", list(number(5)), api.ErrLarge},
		{"B", list(list()), api.ErrType},
	} {
		l := programOf(t, "M EXPLICIT A ::= SEQUENCE {a "+x.typ+"}"+more)
		l[0].Items[0].Type = putDefault(l[0].Items[0].Type, 0, x.v)
		_, e := defaultIn(t, l)
		wantResult(t, x.typ+" DEFAULT "+short(x.v), 0, e, 0, x.want)
	}
}

// P6.2: a schema is that of its module alone.
func TestSchemasOfAll(t *testing.T) {
	l := programOf(t, "M EXPLICIT IMPORTS T FROM N; A ::= T", "N EXPLICIT IMPORTS A FROM M; T ::= U U ::= [1] NULL V ::= A")
	for module, want := range [][]string{
		{"A ::= N_T", "N_T ::= N_U", "N_U ::= [1] EXPLICIT NULL"},
		{"M_A ::= T", "T ::= U", "U ::= [1] EXPLICIT NULL", "V ::= M_A"},
	} {
		s, e := modules.SchemaOf(l, module)
		wantResult(t, fmt.Sprint("SchemaOf ", module), s, e, schemaOf(t, want...), api.OK)
	}
	for _, module := range []int{-1, 2} {
		s, e := modules.SchemaOf(l, module)
		wantResult(t, fmt.Sprint("SchemaOf ", module), s, e, api.Schema{}, api.ErrRange)
	}
	s, e := modules.SchemaOf(programOf(t, "M EXPLICIT A ::= B"), 5)
	wantResult(t, "SchemaOf a wrong program", s, e, api.Schema{}, api.ErrMissing)
}

// longName returns a name of so many letters.
func longName(n int) string { return "L" + strings.Repeat("o", n-1) }

// P6.2: names that are too long, and too many types.
func TestNamesAndNumbersOfTypes(t *testing.T) {
	for n, want := range map[int]api.Errno{29: api.OK, 30: api.OK, 31: api.ErrName, 32: api.ErrName} {
		name := longName(n)
		_, e := modules.SchemaOf(programOf(t, "M EXPLICIT IMPORTS "+name+" FROM N; A ::= "+name, "N EXPLICIT "+name+" ::= NULL"), 0)
		wantResult(t, fmt.Sprint("a name of ", n, " letters"), 0, e, 0, want)
	}
	own := programOf(t, "M EXPLICIT "+longName(32)+" ::= NULL")
	if _, e := modules.SchemaOf(own, 0); e != api.OK {
		t.Errorf("a name of 32 letters of the module itself: error %d", e)
	}
	for n, want := range map[int]api.Errno{11: api.OK, 12: api.OK, 13: api.ErrLarge} {
		mine, others := chainOf(n, "A", "B0"), chainOf(12, "B", "NULL")
		_, e := modules.SchemaOf(programOf(t, "M EXPLICIT IMPORTS B0 FROM N; "+mine, "N EXPLICIT "+others), 0)
		wantResult(t, fmt.Sprint(12+n, " types"), 0, e, 0, want)
		name := longName(31)
		_, e = modules.SchemaOf(programOf(t, "M EXPLICIT IMPORTS B0 FROM N; "+mine, "N EXPLICIT "+chainOf(12, "B", name)+" "+name+" ::= NULL"), 0)
		wantResult(t, fmt.Sprint(13+n, " types, one with a long name"), 0, e, 0, api.ErrName)
	}
}

// chainOf returns items each of which refers to the next one, and the last one to a name.
func chainOf(n int, letter, last string) string {
	var items []string
	for i := range n {
		next := fmt.Sprint(letter, i+1)
		if i == n-1 {
			next = last
		}
		items = append(items, fmt.Sprint(letter, i, " ::= ", next))
	}
	return strings.Join(items, " ")
}

// P6.2: the errors of SchemaOf behind those of the program, step by step.
func TestSchemaFaults(t *testing.T) {
	for text, want := range map[string]api.Errno{
		// 1
		"A ::= SET {components B} B ::= SEQUENCE {b NULL}":                                                              api.ErrType,
		"A ::= SEQUENCE {b NULL, components B} B ::= SEQUENCE {b NULL}":                                                 api.ErrDouble,
		"A ::= SEQUENCE {components A}":                                                                                 api.ErrLoop,
		"A ::= SEQUENCE {components B} B ::= NULL C ::= C":                                                              api.ErrLoop,
		"A ::= SEQUENCE {components NULL, a D (1)} B ::= NULL C ::= SEQUENCE {} D ::= C":                                api.ErrKind,
		"A ::= SEQUENCE {components B (1)} B ::= SEQUENCE {}":                                                           api.ErrKind,
		"A ::= SEQUENCE {a SET {components B}, components C} B ::= NULL C ::= C":                                        api.ErrLoop,
		"A ::= SEQUENCE {a SET {components B}, b NULL, components C} B ::= SEQUENCE {} C ::= SEQUENCE {b NULL}":         api.ErrType,
		"A ::= SEQUENCE {b NULL, a SEQUENCE {b NULL, components C}, components B} B ::= SET {} C ::= SEQUENCE {b NULL}": api.ErrDouble,
		"A ::= SEQUENCE {b NULL, components C} B ::= SET {components C} C ::= SEQUENCE {b NULL}":                        api.ErrDouble,
		"A ::= SET {components C} B ::= SEQUENCE {b NULL, components C} C ::= SEQUENCE {b NULL}":                        api.ErrType,
		// 1 comes before 2, 2 before 3
		"A ::= B (1) B ::= NULL C ::= SET {components D} D ::= SEQUENCE {}": api.ErrType,
		"A ::= B (1) B ::= NULL C ::= C":                                    api.ErrKind,
		"A ::= B (1) B ::= A":                                               api.ErrLarge,
		"A ::= A":                                                           api.ErrLoop,
		"A ::= CHOICE {a B} B ::= CHOICE {b A}":                             api.ErrLoop,
		"A ::= INTEGER (5..3) B ::= B":                                      api.ErrLoop,
		"A ::= B (5..3) B ::= B":                                            api.ErrLoop,
		"A ::= SEQUENCE {a B (1), b C (1)} B ::= C C ::= C":                 api.ErrLoop,
		"A ::= SEQUENCE {a B (1), b D (1)} B ::= C C ::= NULL D ::= D":      api.ErrKind,
		"A ::= SEQUENCE {a D (1), b B (1)} B ::= C C ::= NULL D ::= D":      api.ErrLoop,
		// of 2: lists that have themselves as items
		"A ::= SEQUENCE OF A (SIZE (1))": api.ErrLarge,
		"A ::= SEQUENCE OF A":            api.OK,
		"A ::= SET {a SET OF B (SIZE (1))} B ::= SET OF C (SIZE (3)) C ::= SET OF B (SIZE (2))": api.ErrLarge,
		// values.CheckSchema behind 3
		"A ::= INTEGER (5..3 EXCEPT 4)":                                             api.ErrRange,
		"A ::= INTEGER (5 EXCEPT 5)":                                                api.OK,
		"A ::= B (SIZE (1)) B ::= INTEGER":                                          api.ErrType,
		"A ::= SEQUENCE {a INTEGER DEFAULT TRUE} B ::= SEQUENCE {b INTEGER (2..1)}": api.ErrRange,
		// defaults
		"A ::= SEQUENCE {a INTEGER DEFAULT TRUE}":                                                               api.ErrType,
		"A ::= SEQUENCE {a INTEGER (1) DEFAULT 2, b INTEGER DEFAULT TRUE}":                                      api.ErrBound,
		"A ::= SEQUENCE {b INTEGER DEFAULT TRUE, a INTEGER (1) DEFAULT 2}":                                      api.ErrType,
		"A ::= SEQUENCE {b NULL} B ::= SEQUENCE {x SEQUENCE {b INTEGER DEFAULT TRUE}, a INTEGER (1) DEFAULT 2}": api.ErrBound,
		"A ::= SEQUENCE {a A DEFAULT {}}":                                                                       api.ErrLarge,
		"A ::= SEQUENCE {a A DEFAULT {}, b INTEGER (1) DEFAULT 2}":                                              api.ErrBound,
		"A ::= SEQUENCE {a A DEFAULT {}} B ::= SEQUENCE {b INTEGER (1) DEFAULT 2}":                              api.ErrBound,
	} {
		s, e := modules.SchemaOf(programOf(t, "M EXPLICIT "+text), 0)
		if e != want || e != api.OK && len(s) > 0 {
			t.Errorf("%s: error %d, want %d", text, e, want)
		}
	}
}

// listOfFields returns the text of lists of records with so many fields of a type.
func listOfFields(n int, typ string) string {
	var fields []string
	for i := range n {
		fields = append(fields, fmt.Sprint("f", i, " ", typ))
	}
	return "SEQUENCE OF SEQUENCE {" + strings.Join(fields, ", ") + "}"
}

// P6.2, step 2: how large types may become, and that errors come as they are met.
func TestGreatTypes(t *testing.T) {
	const enum = "ENUMERATED {a (0), b (1), c (2), d (3), e (4), f (5), g (6), h (7), i (8), j (9), k (10), l (11), m (12), n (13), o (14), p (15)}"
	for _, x := range []struct {
		items string
		want  api.Errno
	}{
		// 1 type, and lists of 18, of 18 (of 5) and of 17 (of 4) types
		{"A ::= SEQUENCE {a L (SIZE (1)), b L (SIZE (2)), c L (SIZE (3)), d K (SIZE (4))} K ::= " + listOfFields(3, "NULL") + " L ::= " + listOfFields(16, "NULL"), api.OK},
		{"A ::= SEQUENCE {a L (SIZE (1)), b L (SIZE (2)), c L (SIZE (3)), d K (SIZE (4))} K ::= " + listOfFields(4, "NULL") + " L ::= " + listOfFields(16, "NULL"), api.ErrLarge},
		// items of enumerations count when the schema is checked, but not before
		{"A ::= SEQUENCE {a L (SIZE (1))} L ::= " + listOfFields(3, enum), api.OK},
		{"A ::= SEQUENCE {a L (SIZE (1)), b L (SIZE (1))} L ::= " + listOfFields(3, enum), api.ErrLarge},
		{"A ::= SEQUENCE {a L (SIZE (1)), b L (SIZE (1)), c N (1)} L ::= " + listOfFields(3, enum) + " N ::= NULL", api.ErrKind},
		// types within one another
		{"A ::= " + strings.Repeat("SET OF ", 3) + "L (SIZE (1)) L ::= " + strings.Repeat("SET OF ", 5) + "NULL", api.OK},
		{"A ::= " + strings.Repeat("SET OF ", 4) + "L (SIZE (1)) L ::= " + strings.Repeat("SET OF ", 5) + "NULL", api.ErrLarge},
		// what is met first
		{"A ::= SEQUENCE {a N (1), b " + strings.Repeat("SET OF ", 4) + "L (SIZE (1))} L ::= " + strings.Repeat("SET OF ", 5) + "NULL N ::= NULL", api.ErrKind},
		{"A ::= SEQUENCE {b " + strings.Repeat("SET OF ", 4) + "L (SIZE (1)), a N (1)} L ::= " + strings.Repeat("SET OF ", 5) + "NULL N ::= NULL", api.ErrLarge},
		{"A ::= SEQUENCE {b " + strings.Repeat("SET OF ", 7) + "L (SIZE (1)), a N (1)} L ::= SET OF N (1) N ::= NULL", api.ErrKind},
		{"A ::= SEQUENCE {b " + strings.Repeat("SET OF ", 7) + "L (SIZE (1))} L ::= SET OF SET OF N (1) N ::= NULL", api.ErrLarge},
		{"A ::= SEQUENCE {a L (SIZE (1)), b L (SIZE (2)), c L (SIZE (3)), d L (SIZE (4)), e N (1)} L ::= " + listOfFields(16, "NULL") + " N ::= NULL", api.ErrLarge},
		{"A ::= SEQUENCE {a L (SIZE (1)), b L (SIZE (2)), c L (SIZE (3)), e N (1), d L (SIZE (4))} L ::= " + listOfFields(16, "NULL") + " N ::= NULL", api.ErrKind},
	} {
		_, e := modules.SchemaOf(programOf(t, "M EXPLICIT "+x.items), 0)
		wantResult(t, x.items, 0, e, 0, x.want)
	}
}

// ones returns the text of a list of so many numbers.
func ones(n int) string { return "{1" + strings.Repeat(", 1", n-1) + "}" }

// P6.2: with the normal forms of its defaults a type may be too large, though none is without them.
func TestGreatDefaults(t *testing.T) {
	for n, want := range map[int]api.Errno{26: api.OK, 27: api.OK, 28: api.ErrLarge} {
		_, e := modules.SchemaOf(programOf(t, "M EXPLICIT A ::= SEQUENCE {a B DEFAULT {}, z NULL} B ::= SEQUENCE {x L DEFAULT "+ones(n)+", y L DEFAULT "+ones(27)+"} L ::= SEQUENCE OF INTEGER"), 0)
		wantResult(t, fmt.Sprint("a default of ", 27+n, " numbers"), 0, e, 0, want)
	}
}

// P6.2: the name of an open value is no reference: it stays, and reaches no type.
func TestOpenValuesInDefaults(t *testing.T) {
	l := programOf(t, "M EXPLICIT IMPORTS T FROM N; A ::= SEQUENCE {a ANY} B ::= SET OF INTEGER", "N EXPLICIT T ::= INTEGER U ::= NULL")
	for name, want := range map[string]api.Errno{"B": api.OK, "T": api.ErrMissing, "N_T": api.ErrMissing, "U": api.ErrMissing} {
		l[0].Items[0].Type = putDefault(l[0].Items[0].Type, 0, open(name, list()))
		v, e := defaultIn(t, l)
		wantV := api.Value{}
		if want == api.OK {
			wantV = open(name, bag())
		}
		wantResult(t, "an open value of "+name, v, e, wantV, want)
	}
}
