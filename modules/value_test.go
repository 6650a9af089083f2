package modules_test

import (
	"strings"
	"testing"

	"examiner/api"
	"examiner/modules"
)

// P6.2: what values mean, in normal form.
func TestValues(t *testing.T) {
	const more = " B ::= SET OF INTEGER R ::= SEQUENCE {r INTEGER DEFAULT 7, q B OPTIONAL} N ::= INTEGER (0..9)"
	r := record("r", number(7))
	for text, want := range map[string]api.Value{
		"v NULL ::= NULL":           {},
		"v N ::= 5":                 number(5),
		"v N (3..5) ::= 5":          number(5),
		"v B ::= {3, 1, 2}":         bag(number(1), number(2), number(3)),
		"v B (SIZE (2)) ::= {3, 1}": bag(number(1), number(3)),
		"v SEQUENCE OF B (SIZE (2)) ::= {{3, 1}, {2, 2}}": list(bag(number(1), number(3)), bag(number(2), number(2))),
		"v R ::= {}": r,
		"v [1] T (1..5) ::= 5 T ::= [2] [3] INTEGER":               number(5),
		"v [1] R ::= {q {2, 1}, r 5}":                              record("r q", number(5), bag(number(1), number(2))),
		"v SET OF R ::= {{r 8}, {}}":                               bag(r, record("r", number(8))),
		"v SEQUENCE {a R DEFAULT {r 1}, b B} ::= {b {2, 1}, a {}}": record("a b", r, bag(number(1), number(2))),
		"v CHOICE {a R, b B} ::= b: {2, 1}":                        union("b", bag(number(1), number(2))),
		"v ANY ::= B: {2, 1}":                                      open("B", bag(number(1), number(2))),
		"v SEQUENCE {components N} ::= {components 5}":             record("components", number(5)),
	} {
		wantValue(t, programOf(t, "M AUTOMATIC "+text+more), want, api.OK)
	}
}

// P6.2: values of other modules are values of types there.
func TestImportedValues(t *testing.T) {
	l := programOf(t,
		"M EXPLICIT IMPORTS v FROM N; T ::= NULL",
		"N EXPLICIT EXPORTS v; IMPORTS v FROM O; T ::= REAL",
		"O EXPLICIT IMPORTS U FROM P; T ::= SEQUENCE OF U v T ::= {{}, {2, 1}}",
		"P EXPLICIT U ::= SET OF T T ::= INTEGER")
	wantValue(t, l, list(bag(), bag(number(1), number(2))), api.OK)
}

// P6.2: the errors of ValueOf, in their order.
func TestValueFaults(t *testing.T) {
	const n = " N ::= INTEGER (0..9)"
	for _, x := range []struct {
		texts []string
		want  api.Errno
	}{
		{[]string{"M EXPLICIT v B ::= 5"}, api.ErrMissing},
		{[]string{"M EXPLICIT w NULL ::= NULL"}, api.ErrMissing},
		{[]string{"M EXPLICIT A ::= A"}, api.ErrMissing},
		{[]string{"M EXPLICIT v NULL ::= NULL A ::= A"}, api.ErrLoop},
		{[]string{"M EXPLICIT v NULL ::= NULL A ::= SEQUENCE {a INTEGER DEFAULT TRUE}"}, api.ErrType},
		// following references with constraints
		{[]string{"M EXPLICIT v A (1) ::= TRUE A ::= NULL"}, api.ErrKind},
		{[]string{"M EXPLICIT v SEQUENCE {a A (SIZE (1))} ::= TRUE A ::= " + strings.Repeat("SET OF ", 7) + "NULL"}, api.ErrType},
		{[]string{"M EXPLICIT v SEQUENCE {a A (SIZE (1))} ::= TRUE A ::= " + strings.Repeat("SET OF ", 8) + "NULL"}, api.ErrLarge},
		{[]string{"M EXPLICIT v [1] [2] [3] A (1) ::= 1 A ::= [4] [5] [6] B B ::= [7] INTEGER"}, api.ErrLarge},
		// normal form
		{[]string{"M EXPLICIT v N ::= 10" + n}, api.ErrBound},
		{[]string{"M EXPLICIT v N (3..5) ::= 6" + n}, api.ErrBound},
		{[]string{"M EXPLICIT v N (5..3) ::= 4" + n}, api.ErrRange},
		{[]string{"M EXPLICIT v N ::= {}" + n}, api.ErrType},
		{[]string{"M EXPLICIT v SEQUENCE {a N} ::= {}" + n}, api.ErrUnbound},
		{[]string{"M EXPLICIT v SEQUENCE {a N} ::= {b 5}" + n}, api.ErrMissing},
		{[]string{"M EXPLICIT v SEQUENCE {a SET OF N DEFAULT {}} ::= {}" + n}, api.ErrType},
		// schemas of other modules
		{[]string{"M EXPLICIT IMPORTS v FROM N; A ::= A", "N EXPLICIT v NULL ::= NULL"}, api.OK},
		{[]string{"M EXPLICIT IMPORTS v FROM N;", "N EXPLICIT v NULL ::= NULL A ::= A"}, api.ErrLoop},
		{[]string{"M EXPLICIT IMPORTS v FROM N;", "N EXPLICIT EXPORTS; v NULL ::= NULL A ::= A"}, api.ErrScope},
	} {
		wantValue(t, programOf(t, x.texts...), api.Value{}, x.want)
	}
	loop := programOf(t, "M EXPLICIT A ::= A v A ::= NULL")
	for _, x := range []struct {
		module int
		name   string
		want   api.Errno
	}{{0, "A", api.ErrType}, {0, "v", api.ErrLoop}, {0, "w", api.ErrMissing}, {1, "A", api.ErrRange}} {
		v, e := modules.ValueOf(loop, x.module, x.name)
		wantResult(t, x.name, v, e, api.Value{}, x.want)
	}
}
