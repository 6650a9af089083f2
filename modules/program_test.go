package modules_test

import (
	"fmt"
	"strings"
	"testing"

	"examiner/api"
	"examiner/modules"
)

// P6.1: programs that are right.
func TestPrograms(t *testing.T) {
	for _, texts := range [][]string{
		{"M EXPLICIT "},
		{"M EXPLICIT T ::= INTEGER v T ::= 5"},
		{"M EXPLICIT v BOOLEAN ::= 5"},
		{"M EXPLICIT T ::= T"},
		{"M EXPLICIT T ::= SEQUENCE {a U, b SET OF V, c CHOICE {d ANY}} U ::= NULL V ::= U (5)"},
		{"M EXPLICIT IMPORTS T FROM N; U ::= T", "N IMPLICIT T ::= NULL"},
		{"M EXPLICIT IMPORTS T FROM N; A ::= U U ::= T", "N IMPLICIT EXPORTS T; T ::= U U ::= REAL"},
		{"M EXPLICIT IMPORTS T, v FROM N; w T ::= 5", "N EXPLICIT T ::= INTEGER v T ::= 5"},
		// two modules that import from one another, and three in a circle
		{"M EXPLICIT IMPORTS T FROM N; U ::= T", "N EXPLICIT IMPORTS U FROM M; T ::= U"},
		{"M EXPLICIT IMPORTS A FROM N; B ::= A", "N EXPLICIT IMPORTS C FROM O; A ::= C", "O EXPLICIT IMPORTS B FROM M; C ::= B"},
		// what is imported is passed on
		{"M EXPLICIT IMPORTS T FROM N; A ::= T", "N EXPLICIT EXPORTS T; IMPORTS T FROM O;", "O EXPLICIT T ::= NULL"},
		{"M EXPLICIT IMPORTS T FROM N; A ::= T", "N EXPLICIT IMPORTS T FROM O;", "O EXPLICIT T ::= NULL"},
		{"M EXPLICIT EXPORTS T; IMPORTS T FROM N;", "N EXPLICIT EXPORTS T; IMPORTS T FROM O;", "O EXPLICIT EXPORTS T; T ::= NULL"},
		// the same item in two ways, and another one with the same name
		{"M EXPLICIT IMPORTS T FROM N U FROM O;", "N EXPLICIT IMPORTS T FROM P;", "O EXPLICIT IMPORTS T FROM P; U ::= T", "P EXPLICIT T ::= NULL"},
		{"M EXPLICIT IMPORTS U FROM N; T ::= U", "N EXPLICIT T ::= NULL U ::= T"},
	} {
		wantProgram(t, strings.Join(texts, "; "), programOf(t, texts...), place(0, 0), api.OK)
	}
}

// P6.1: each error of CheckProgram, with its place.
func TestProgramFaults(t *testing.T) {
	for _, x := range []struct {
		texts        []string
		module, item int
		want         api.Errno
	}{
		{nil, 0, 0, api.ErrEmpty},
		{[]string{"M EXPLICIT "}, 0, 0, api.OK},
		// names of modules
		{[]string{"M EXPLICIT ", "M EXPLICIT "}, 1, 0, api.ErrExists},
		{[]string{"M EXPLICIT A ::= NULL", "N EXPLICIT ", "O EXPLICIT A ::= NULL", "N EXPLICIT A ::= NULL"}, 3, 0, api.ErrExists},
		// imports
		{[]string{"M EXPLICIT IMPORTS T FROM N;"}, 0, 0, api.ErrMissing},
		{[]string{"M EXPLICIT A ::= NULL T ::= NULL", "N EXPLICIT IMPORTS T FROM M U FROM O; A ::= NULL"}, 1, 0, api.ErrMissing},
		{[]string{"M EXPLICIT IMPORTS T FROM N;", "N EXPLICIT "}, 0, 0, api.ErrScope},
		{[]string{"M EXPLICIT IMPORTS T FROM N;", "N EXPLICIT EXPORTS; T ::= NULL"}, 0, 0, api.ErrScope},
		{[]string{"M EXPLICIT IMPORTS T FROM N;", "N EXPLICIT EXPORTS U; T ::= NULL U ::= NULL"}, 0, 0, api.ErrScope},
		{[]string{"M EXPLICIT IMPORTS U, T FROM N;", "N EXPLICIT EXPORTS U; T ::= NULL U ::= NULL"}, 0, 0, api.ErrScope},
		{[]string{"N EXPLICIT EXPORTS U; U ::= NULL", "M EXPLICIT IMPORTS U FROM N t FROM O;", "O EXPLICIT T ::= NULL"}, 1, 0, api.ErrScope},
		// what is imported is not passed on, or is not there further on (which is told where it is imported from there)
		{[]string{"M EXPLICIT IMPORTS T FROM N;", "N EXPLICIT EXPORTS; IMPORTS T FROM O;", "O EXPLICIT T ::= NULL"}, 0, 0, api.ErrScope},
		{[]string{"M EXPLICIT IMPORTS T FROM N;", "N EXPLICIT IMPORTS T FROM O;", "O EXPLICIT "}, 1, 0, api.ErrScope},
		{[]string{"M EXPLICIT IMPORTS T FROM N;", "N EXPLICIT IMPORTS T FROM O;"}, 1, 0, api.ErrMissing},
		// circles of imports
		{[]string{"M EXPLICIT IMPORTS T FROM N;", "N EXPLICIT IMPORTS T FROM M;"}, 0, 0, api.ErrLoop},
		{[]string{"M EXPLICIT EXPORTS; IMPORTS T FROM N;", "N EXPLICIT IMPORTS T FROM M;"}, 0, 0, api.ErrLoop},
		{[]string{"M EXPLICIT IMPORTS T FROM N;", "N EXPLICIT EXPORTS; IMPORTS T FROM M;"}, 0, 0, api.ErrScope},
		{[]string{"M EXPLICIT IMPORTS T FROM N;", "N EXPLICIT IMPORTS T FROM O;", "O EXPLICIT IMPORTS T FROM N;"}, 0, 0, api.ErrLoop},
		{[]string{"M EXPLICIT IMPORTS T FROM N;", "N EXPLICIT IMPORTS T FROM O;", "O EXPLICIT EXPORTS; IMPORTS T FROM M;"}, 0, 0, api.ErrLoop},
		{[]string{"M EXPLICIT T ::= NULL", "N EXPLICIT IMPORTS U FROM O;", "O EXPLICIT IMPORTS T FROM M U FROM P;", "P EXPLICIT IMPORTS U FROM O;"}, 1, 0, api.ErrLoop},
		// items
		{[]string{"M EXPLICIT T ::= U"}, 0, 0, api.ErrMissing},
		{[]string{"M EXPLICIT T ::= NULL U ::= SEQUENCE {a T, b SET OF CHOICE {c V}}"}, 0, 1, api.ErrMissing},
		{[]string{"M EXPLICIT T ::= NULL v U ::= NULL"}, 0, 1, api.ErrMissing},
		{[]string{"M EXPLICIT IMPORTS T FROM N; U ::= V", "N EXPLICIT V ::= NULL T ::= V"}, 0, 0, api.ErrMissing},
		{[]string{"M EXPLICIT T{X} ::= NULL"}, 0, 0, api.ErrRefused},
		{[]string{"M EXPLICIT U ::= NULL T{X} ::= X"}, 0, 1, api.ErrRefused},
		{[]string{"M EXPLICIT U ::= NULL T ::= U{NULL}"}, 0, 1, api.ErrRefused},
		{[]string{"M EXPLICIT U ::= NULL T ::= SET OF SEQUENCE {a NULL, b U{NULL}}"}, 0, 1, api.ErrRefused},
		{[]string{"M EXPLICIT U ::= NULL v U{NULL} ::= NULL"}, 0, 1, api.ErrRefused},
		{[]string{"M EXPLICIT T ::= CHOICE {a C.&Type ({S})}"}, 0, 0, api.ErrRefused},
		{[]string{"M EXPLICIT T ::= C.&Type ({S})"}, 0, 0, api.ErrRefused},
		{[]string{"M EXPLICIT A ::= NULL C ::= CLASS {&Type}"}, 0, 1, api.ErrRefused},
		{[]string{"M EXPLICIT A ::= NULL c C ::= {&Type NULL}"}, 0, 1, api.ErrRefused},
		{[]string{"M EXPLICIT A ::= NULL C C ::= {c}"}, 0, 1, api.ErrRefused},
	} {
		wantProgram(t, strings.Join(x.texts, "; "), programOf(t, x.texts...), place(x.module, x.item), x.want)
	}
}

// P6.1: a name that is a reference must lead to a type. No text has a reference with a small letter.
func TestReferencesToNoTypes(t *testing.T) {
	l := programOf(t, "M EXPLICIT IMPORTS v FROM N; A ::= NULL B ::= SEQUENCE {a A, b V}", "N EXPLICIT v NULL ::= NULL")
	l[0].Items[1].Type.Fields[1].Type.Name = "v"
	wantProgram(t, "an imported value as a type", l, place(0, 1), api.ErrType)
	l = programOf(t, "M EXPLICIT v NULL ::= NULL A ::= V")
	l[0].Items[1].Type.Name = "v"
	wantProgram(t, "a value as a type", l, place(0, 1), api.ErrType)
	l = programOf(t, "M EXPLICIT IMPORTS C FROM N; A ::= C", "N EXPLICIT C ::= CLASS {&Type}")
	wantProgram(t, "a class as a type", l, place(0, 0), api.ErrType)
	l = programOf(t, "M EXPLICIT IMPORTS P FROM N; A ::= P", "N EXPLICIT P{X} ::= NULL")
	wantProgram(t, "a type with parameters as a type", l, place(1, 0), api.ErrRefused)
}

// P6.1: of several errors the one that is listed first.
func TestOrderOfProgramFaults(t *testing.T) {
	wrong := moduleOf(t, "M EXPLICIT A ::= NULL B ::= NULL")
	wrong.Items[1].Kind = api.ItemKinds
	same := moduleOf(t, "M EXPLICIT IMPORTS T FROM X; A ::= B")
	absent := moduleOf(t, "N EXPLICIT IMPORTS T FROM X U FROM M; A ::= B")
	closed := moduleOf(t, "O EXPLICIT IMPORTS U FROM M T FROM X; A ::= B")
	circle := moduleOf(t, "P EXPLICIT IMPORTS T FROM Q; A ::= B")
	back := moduleOf(t, "Q EXPLICIT IMPORTS T FROM P; A ::= B")
	refused := moduleOf(t, "R EXPLICIT A ::= SEQUENCE {a B, b B{NULL}}")
	missing := moduleOf(t, "S EXPLICIT A ::= B")
	for _, x := range []struct {
		l            []api.AsnModule
		module, item int
		want         api.Errno
	}{
		{[]api.AsnModule{same, wrong}, 1, 1, api.ErrKind},
		{[]api.AsnModule{wrong, same}, 0, 1, api.ErrKind},
		{[]api.AsnModule{same, same, wrong}, 1, 0, api.ErrExists},
		{[]api.AsnModule{absent, same, same}, 2, 0, api.ErrExists},
		{[]api.AsnModule{missing, same}, 1, 0, api.ErrMissing},
		{[]api.AsnModule{missing, same, absent}, 1, 0, api.ErrMissing},
		{[]api.AsnModule{closed, same}, 0, 0, api.ErrScope},
		{[]api.AsnModule{same, closed}, 0, 0, api.ErrMissing},
		{[]api.AsnModule{absent, circle, back}, 0, 0, api.ErrMissing},
		{[]api.AsnModule{circle, absent, back}, 0, 0, api.ErrLoop},
		{[]api.AsnModule{missing, back, circle}, 1, 0, api.ErrLoop},
		{[]api.AsnModule{missing, refused}, 0, 0, api.ErrMissing},
		{[]api.AsnModule{refused, missing}, 0, 0, api.ErrRefused},
		{[]api.AsnModule{circle, circle, circle, circle, circle, circle, wrong}, 0, 0, api.ErrLarge},
		{[]api.AsnModule{missing, refused, absent, circle, back, wrong}, 5, 1, api.ErrKind},
	} {
		wantProgram(t, fmt.Sprint(len(x.l), " modules"), x.l, place(x.module, x.item), x.want)
	}
	scope := moduleOf(t, "T EXPLICIT EXPORTS; U ::= NULL V ::= NULL")
	looped := moduleOf(t, "P EXPLICIT IMPORTS T FROM Q U FROM T;")
	wantProgram(t, "a circle, then what is not given", []api.AsnModule{looped, back, scope}, place(0, 0), api.ErrLoop)
	looped.Imports[0], looped.Imports[1] = looped.Imports[1], looped.Imports[0]
	wantProgram(t, "what is not given, then a circle", []api.AsnModule{looped, back, scope}, place(0, 0), api.ErrScope)
	looped = moduleOf(t, "P EXPLICIT IMPORTS T, X FROM Q;")
	wantProgram(t, "names of one import: a circle first", []api.AsnModule{looped, back}, place(0, 0), api.ErrLoop)
	looped = moduleOf(t, "P EXPLICIT IMPORTS X, T FROM Q;")
	wantProgram(t, "names of one import: one that is not there first", []api.AsnModule{looped, back}, place(0, 0), api.ErrScope)
	order := moduleOf(t, "M EXPLICIT v NULL ::= NULL A ::= SEQUENCE {a X, b Y}")
	order.Items[1].Type.Fields[0].Type.Name = "v"
	wantProgram(t, "a value, then what is not there", []api.AsnModule{order}, place(0, 1), api.ErrType)
	order.Items[1].Type.Fields[0].Type, order.Items[1].Type.Fields[1].Type = order.Items[1].Type.Fields[1].Type, order.Items[1].Type.Fields[0].Type
	wantProgram(t, "what is not there, then a value", []api.AsnModule{order}, place(0, 1), api.ErrMissing)
}

// P6.1: at most MaxModules modules.
func TestMostModules(t *testing.T) {
	var l []api.AsnModule
	for i := range api.MaxModules + 1 {
		l = append(l, moduleOf(t, fmt.Sprintf("M%d EXPLICIT IMPORTS A%d FROM M%d; A%d ::= A%d", i, i+1, (i+1)%api.MaxModules, i, i+1)))
	}
	l[api.MaxModules-1] = moduleOf(t, "M5 EXPLICIT IMPORTS A0 FROM M0; A5 ::= A0")
	wantProgram(t, "6 modules", l[:api.MaxModules], place(0, 0), api.OK)
	wantProgram(t, "7 modules", l, place(0, 0), api.ErrLarge)
}

// P6.1: what names mean.
func TestMeanings(t *testing.T) {
	l := programOf(t,
		"M EXPLICIT IMPORTS T, v FROM N U FROM O; A ::= T b A ::= NULL",
		"N EXPLICIT EXPORTS v, T; IMPORTS T FROM O; U ::= NULL v NULL ::= NULL",
		"O EXPLICIT IMPORTS A FROM M; X ::= NULL T ::= NULL U ::= NULL")
	for _, x := range []struct {
		module int
		name   string
		want   api.ModulePlace
		wantE  api.Errno
	}{
		{0, "A", place(0, 0), api.OK},
		{0, "b", place(0, 1), api.OK},
		{0, "T", place(2, 1), api.OK},
		{0, "v", place(1, 1), api.OK},
		{0, "U", place(2, 2), api.OK},
		{0, "X", place(0, 0), api.ErrMissing},
		{0, "", place(0, 0), api.ErrMissing},
		{0, "M", place(0, 0), api.ErrMissing},
		{1, "U", place(1, 0), api.OK},
		{1, "T", place(2, 1), api.OK},
		{1, "A", place(0, 0), api.ErrMissing},
		{2, "A", place(0, 0), api.OK},
		{2, "X", place(2, 0), api.OK},
		{3, "X", place(0, 0), api.ErrRange},
		{-1, "X", place(0, 0), api.ErrRange},
	} {
		at, e := modules.MeaningOf(l, x.module, x.name)
		wantResult(t, fmt.Sprint("MeaningOf ", x.module, " ", x.name), at, e, x.want, x.wantE)
	}
	at, e := modules.MeaningOf(programOf(t, "M EXPLICIT A ::= NULL B ::= C"), 7, "A")
	wantResult(t, "MeaningOf in a wrong program", at, e, place(0, 0), api.ErrMissing)
	at, e = modules.MeaningOf(nil, 7, "A")
	wantResult(t, "MeaningOf in no program", at, e, place(0, 0), api.ErrEmpty)
}
