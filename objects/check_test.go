package objects_test

import (
	"fmt"
	"strings"
	"testing"

	"examiner/api"
)

// P7.1: modules that are right.
func TestObjects(t *testing.T) {
	for _, texts := range [][]string{
		{"M EXPLICIT "},
		{"M EXPLICIT" + someObjects},
		{"M EXPLICIT v T ::= 5 T ::= INTEGER"},
		// what is expanded, or checked behind that, is not looked at
		{"M EXPLICIT A ::= B v P ::= 5 P{X} ::= X Q{X} ::= SEQUENCE {a X, b Q{SET OF X}} R ::= Q{NULL}"},
		{"M EXPLICIT C ::= CLASS {&id INTEGER (0..9), &Type} x C ::= {&id \"not a number\", &Type A} S C ::= {x}"},
		{"M EXPLICIT IMPORTS T, C FROM N; A ::= T"},
		{"M EXPLICIT IMPORTS T, v, D FROM N; A ::= T", "N EXPLICIT EXPORTS; C ::= CLASS {&Type} T ::= NULL U{X} ::= NULL v NULL ::= NULL"},
		// uses everywhere
		{"M EXPLICIT A ::= P{NULL} v SEQUENCE OF P{A} ::= {} P{X} ::= SET {a X, b P{INTEGER}}"},
		{"M EXPLICIT A ::= CHOICE {a C.&id ({S}), b C.&Type ({R}{@none}), c SET OF C.&Other ({E})} B{X, Y} ::= SEQUENCE {a P{X, C.&name ({O})}} v C.&id ({S}) ::= 1 P{Y, X} ::= NULL" + someObjects},
		{"M EXPLICIT D ::= CLASS {&f P{INTEGER}, &g SET OF NULL, &T} P{X} ::= D.&f ({DD}) DD D ::= {d} d D ::= {&f 1, &g 2, &T P{D.&T ({DD})}}"},
		// names of parameters hide those of types, and nothing else
		{"M EXPLICIT P{A} ::= SEQUENCE {a A} A ::= NULL B ::= P{A}"},
		{"M EXPLICIT P{C, S} ::= SEQUENCE {a C, b S, c C.&id ({S})}" + someObjects},
		{"M EXPLICIT P{P} ::= P Q ::= P{P{NULL}}"},
		// a set may have objects that stand behind it; values that are not unique, or not there, do not matter
		{"M EXPLICIT S C ::= {x | y | z} C ::= CLASS {&id INTEGER UNIQUE OPTIONAL, &nr INTEGER, &Type OPTIONAL} x C ::= {&nr 5} y C ::= {&nr 5} z C ::= {&nr 5, &id 5}"},
		{"M EXPLICIT C ::= CLASS {&id SEQUENCE OF NULL UNIQUE} x C ::= {&id {}} y C ::= {&id 0} z C ::= {&id {NULL}} S C ::= {x | y | z}"},
		{"M EXPLICIT C ::= CLASS {&a INTEGER UNIQUE, &b INTEGER UNIQUE} x C ::= {&a 1, &b 2} y C ::= {&a 2, &b 1} z C ::= {&a 1, &b 1} S C ::= {x | y} R C ::= {z}"},
		// modules by themselves: what has one name in both
		{"M EXPLICIT" + someObjects, "N EXPLICIT" + someObjects + " A ::= C.&id ({S})"},
	} {
		wantObjects(t, strings.Join(texts, "; "), programOf(t, texts...), place(0, 0), api.OK)
	}
}

// P7.1: each error of CheckObjects, with its place.
func TestObjectsFaults(t *testing.T) {
	for _, x := range []struct {
		texts        []string
		module, item int
		want         api.Errno
	}{
		{nil, 0, 0, api.ErrEmpty},
		// names of modules
		{[]string{"M EXPLICIT A ::= NULL", "M EXPLICIT A ::= NULL B ::= NULL"}, 1, 0, api.ErrExists},
		{[]string{"M EXPLICIT ", "N EXPLICIT ", "O EXPLICIT ", "N EXPLICIT "}, 3, 0, api.ErrExists},
		// imports of what belongs to its own module
		{[]string{"M EXPLICIT IMPORTS T FROM N;", "N EXPLICIT T{X} ::= X"}, 0, 0, api.ErrRefused},
		{[]string{"M EXPLICIT IMPORTS A, C FROM N;", "N EXPLICIT C ::= CLASS {&Type} A ::= NULL"}, 0, 0, api.ErrRefused},
		{[]string{"N EXPLICIT x C ::= {&Type NULL} C ::= CLASS {&Type}", "M EXPLICIT IMPORTS A FROM O x FROM N; B ::= NULL"}, 1, 0, api.ErrRefused},
		{[]string{"M EXPLICIT IMPORTS S FROM N;", "N EXPLICIT EXPORTS; S C ::= {} C ::= CLASS {&Type}"}, 0, 0, api.ErrRefused},
		{[]string{"M EXPLICIT IMPORTS C FROM N;", "N EXPLICIT IMPORTS C FROM O;", "O EXPLICIT C ::= CLASS {&Type}"}, 1, 0, api.ErrRefused},
		// uses of parameterized types
		{[]string{"M EXPLICIT A ::= P{NULL}"}, 0, 0, api.ErrMissing},
		{[]string{"M EXPLICIT P ::= NULL A ::= P{NULL}"}, 0, 1, api.ErrMissing},
		{[]string{"M EXPLICIT A ::= SEQUENCE {a C{NULL}} C ::= CLASS {&Type}"}, 0, 0, api.ErrMissing},
		{[]string{"M EXPLICIT IMPORTS P FROM N; A ::= P{NULL}", "N EXPLICIT "}, 0, 0, api.ErrMissing},
		{[]string{"M EXPLICIT A ::= P{NULL}", "N EXPLICIT P{X} ::= X"}, 0, 0, api.ErrMissing},
		{[]string{"M EXPLICIT P{X} ::= X A ::= SET OF CHOICE {a P{NULL, NULL}}"}, 0, 1, api.ErrArity},
		{[]string{"M EXPLICIT P{X, Y} ::= X v P{NULL} ::= NULL"}, 0, 1, api.ErrArity},
		{[]string{"M EXPLICIT P{X, Y} ::= P{X}"}, 0, 0, api.ErrArity},
		{[]string{"M EXPLICIT P{X} ::= Q{X}"}, 0, 0, api.ErrMissing},
		{[]string{"M EXPLICIT P{X} ::= NULL A ::= P{P{Q{NULL}}}"}, 0, 1, api.ErrMissing},
		{[]string{"M EXPLICIT P{X} ::= X C ::= CLASS {&Type, &id SET OF P{NULL, NULL}}"}, 0, 1, api.ErrArity},
		{[]string{"M EXPLICIT x C ::= {&Type NULL, &Other SET OF P{NULL}} C ::= CLASS {&Type, &Other}"}, 0, 0, api.ErrMissing},
		// a parameter hides the parameterized type
		{[]string{"M EXPLICIT P{X} ::= X Q{P} ::= SEQUENCE {a P, b P{P}}"}, 0, 1, api.ErrMissing},
		{[]string{"M EXPLICIT P{P} ::= P{P}"}, 0, 0, api.ErrMissing},
		// uses of classes
		{[]string{"M EXPLICIT A ::= D.&id ({S})" + someObjects}, 0, 0, api.ErrMissing},
		{[]string{"M EXPLICIT D ::= NULL A ::= D.&id ({S})" + someObjects}, 0, 1, api.ErrMissing},
		{[]string{"M EXPLICIT A ::= C.&ids ({S})" + someObjects}, 0, 0, api.ErrMissing},
		{[]string{"M EXPLICIT A ::= C.&Types ({S}{@a})" + someObjects}, 0, 0, api.ErrMissing},
		{[]string{"M EXPLICIT v SET OF C.&id ({T}) ::= {}" + someObjects}, 0, 0, api.ErrMissing},
		{[]string{"M EXPLICIT A ::= NULL P{X} ::= SET OF SEQUENCE {a X, b C.&id ({A})}" + someObjects}, 0, 1, api.ErrMissing},
		{[]string{"M EXPLICIT A ::= C.&id ({S}) D ::= CLASS {&Type} C ::= CLASS {&id NULL} S D ::= {}"}, 0, 0, api.ErrType},
		{[]string{"M EXPLICIT A ::= C.&id ({S}) C ::= CLASS {&id NULL} S D ::= {}"}, 0, 0, api.ErrType},
		{[]string{"M EXPLICIT A ::= C.&id ({S})", "N EXPLICIT" + someObjects}, 0, 0, api.ErrMissing},
		// classes
		{[]string{"M EXPLICIT C ::= CLASS {&id C.&id ({S})} S C ::= {}"}, 0, 0, api.ErrRefused},
		{[]string{"M EXPLICIT D ::= CLASS {&T, &id INTEGER, &other SEQUENCE {a SET OF C.&Type ({S})}}" + someObjects}, 0, 0, api.ErrRefused},
		{[]string{"M EXPLICIT P{X} ::= X D ::= CLASS {&id P{C.&Type ({S})}}" + someObjects}, 0, 1, api.ErrRefused},
		// objects
		{[]string{"M EXPLICIT x C ::= {&id 1}"}, 0, 0, api.ErrMissing},
		{[]string{"M EXPLICIT C ::= NULL x C ::= {&id 1}"}, 0, 1, api.ErrMissing},
		{[]string{"M EXPLICIT C ::= CLASS {&id INTEGER} x C ::= {&id 1, &no 2}"}, 0, 1, api.ErrMissing},
		{[]string{"M EXPLICIT C ::= CLASS {&id INTEGER} x C ::= {&Id NULL, &id 2}"}, 0, 1, api.ErrMissing},
		{[]string{"M EXPLICIT C ::= CLASS {&id INTEGER, &Type} x C ::= {&id 1}"}, 0, 1, api.ErrUnbound},
		{[]string{"M EXPLICIT C ::= CLASS {&id INTEGER, &Type} x C ::= {&Type NULL}"}, 0, 1, api.ErrUnbound},
		{[]string{"M EXPLICIT C ::= CLASS {&id INTEGER OPTIONAL, &Type} x C ::= {&id 1}"}, 0, 1, api.ErrUnbound},
		// sets
		{[]string{"M EXPLICIT S C ::= {}"}, 0, 0, api.ErrMissing},
		{[]string{"M EXPLICIT C{X} ::= X S C ::= {...}"}, 0, 1, api.ErrMissing},
		{[]string{"M EXPLICIT C ::= CLASS {&id INTEGER} S C ::= {x | y} x C ::= {&id 1}"}, 0, 1, api.ErrMissing},
		{[]string{"M EXPLICIT C ::= CLASS {&id INTEGER} S C ::= {v} v INTEGER ::= 1"}, 0, 1, api.ErrMissing},
		{[]string{"M EXPLICIT C ::= CLASS {&id INTEGER} S C ::= {x | y, ...} x C ::= {&id 1} y D ::= {&id 2} D ::= CLASS {&id INTEGER}"}, 0, 1, api.ErrType},
		{[]string{"M EXPLICIT C ::= CLASS {&id INTEGER} S C ::= {y} y D ::= {&id 2}"}, 0, 1, api.ErrType},
		{[]string{"M EXPLICIT C ::= CLASS {&id INTEGER UNIQUE, &Type} x C ::= {&id 1, &Type NULL} y C ::= {&Type REAL, &id 1} S C ::= {x | y}"}, 0, 3, api.ErrDouble},
		{[]string{"M EXPLICIT C ::= CLASS {&nr INTEGER, &id SET OF NULL UNIQUE OPTIONAL} x C ::= {&nr 1, &id {NULL}} y C ::= {&nr 1} z C ::= {&nr 1, &id {NULL}} S C ::= {x | y | z, ...}"}, 0, 4, api.ErrDouble},
		{[]string{"M EXPLICIT C ::= CLASS {&a INTEGER UNIQUE, &b INTEGER UNIQUE} x C ::= {&a 1, &b 2} y C ::= {&a 2, &b 1} z C ::= {&a 3, &b 2} S C ::= {x | y | z}"}, 0, 4, api.ErrDouble},
		{[]string{"M EXPLICIT S C ::= {x | y} C ::= CLASS {&id INTEGER UNIQUE} x C ::= {&no 1, &id 1} y C ::= {&id 1}"}, 0, 0, api.ErrDouble},
	} {
		wantObjects(t, strings.Join(x.texts, "; "), programOf(t, x.texts...), place(x.module, x.item), x.want)
	}
}

// P7.1: a module that is wrong by itself, with its item.
func TestObjectsOfWrongModules(t *testing.T) {
	wrong := moduleOf(t, "M EXPLICIT A ::= NULL B ::= NULL")
	wrong.Items[1].Kind = api.ItemKinds
	wantObjects(t, "a wrong kind", []api.AsnModule{moduleOf(t, "N EXPLICIT A ::= P{NULL}"), wrong}, place(1, 1), api.ErrKind)
	wrong = moduleOf(t, "M EXPLICIT C ::= CLASS {&Type} x C ::= {&Type NULL}")
	wrong.Items[1].Settings[0].Value = []api.Value{{}}
	wantObjects(t, "a value with the name of a type", []api.AsnModule{wrong}, place(0, 1), api.ErrName)
	wrong.Items[1].Settings[0].Name = "type"
	wantObjects(t, "both a value and a type", []api.AsnModule{wrong}, place(0, 1), api.ErrShape)
	wrong = moduleOf(t, "M EXPLICIT EXPORTS A; A ::= NULL")
	wrong.Exports[0] = "B"
	wantObjects(t, "an export that is not there", []api.AsnModule{wrong}, place(0, 0), api.ErrMissing)
}

// P7.1: at most MaxModules modules.
func TestMostModules(t *testing.T) {
	var l []api.AsnModule
	for i := range api.MaxModules + 1 {
		l = append(l, moduleOf(t, fmt.Sprintf("M%d EXPLICIT"+someObjects, i)))
	}
	wantObjects(t, "6 modules", l[:api.MaxModules], place(0, 0), api.OK)
	wantObjects(t, "7 modules", l, place(0, 0), api.ErrLarge)
}

// P7.1: of several errors the one that is listed first.
func TestOrderOfObjectsFaults(t *testing.T) {
	wrong := moduleOf(t, "M EXPLICIT A ::= NULL")
	wrong.Way = api.Ways
	same := moduleOf(t, "M EXPLICIT A ::= P{NULL}")
	importing := moduleOf(t, "N EXPLICIT IMPORTS P FROM O; A ::= P{NULL}")
	owner := moduleOf(t, "O EXPLICIT A ::= NULL P{X} ::= Q{X}")
	for _, x := range []struct {
		l            []api.AsnModule
		module, item int
		want         api.Errno
	}{
		{[]api.AsnModule{same, importing, owner, wrong}, 3, 0, api.ErrRange},
		{[]api.AsnModule{same, importing, same, wrong}, 2, 0, api.ErrExists},
		{[]api.AsnModule{same, importing, wrong, same}, 2, 0, api.ErrRange},
		{[]api.AsnModule{owner, same, importing, same}, 3, 0, api.ErrExists},
		{[]api.AsnModule{owner, same, importing}, 2, 0, api.ErrRefused},
		{[]api.AsnModule{owner, same}, 0, 1, api.ErrMissing},
		{[]api.AsnModule{same, owner}, 0, 0, api.ErrMissing},
		{[]api.AsnModule{wrong, wrong, wrong, wrong, wrong, wrong, wrong}, 0, 0, api.ErrLarge},
	} {
		wantObjects(t, fmt.Sprint(len(x.l), " modules"), x.l, place(x.module, x.item), x.want)
	}
	for text, want := range map[string]api.Errno{
		// types are gone through from the inside to the outside, from the left to the right
		"A ::= P{Q{NULL}} P{X, Y} ::= X":                                                                       api.ErrMissing,
		"A ::= Q{P{NULL}} P{X, Y} ::= X":                                                                       api.ErrArity,
		"A ::= P{P{NULL}, Q{NULL}} P{X, Y} ::= X":                                                              api.ErrArity,
		"A ::= P{Q{NULL}, P{NULL}} P{X, Y} ::= X":                                                              api.ErrMissing,
		"A ::= SEQUENCE {a SET OF SEQUENCE {b P{NULL}}, c Q{NULL}} P{X, Y} ::= X":                              api.ErrArity,
		"A ::= SEQUENCE {a SEQUENCE OF Q{NULL}, c P{NULL}} P{X, Y} ::= X":                                      api.ErrMissing,
		"A ::= P{C.&id ({S})} P{X, Y} ::= X C ::= CLASS {&id NULL} S D ::= {}":                                 api.ErrType,
		"A ::= C.&no ({S}) C ::= CLASS {&id NULL} S D ::= {}":                                                  api.ErrMissing,
		"A ::= D.&id ({S}) C ::= CLASS {&id NULL} S C ::= {}":                                                  api.ErrMissing,
		"C ::= CLASS {&id C.&id ({S}), &nr P{NULL}} S C ::= {}":                                                api.ErrMissing,
		"C ::= CLASS {&id C.&id ({S}), &nr P{NULL}} S C ::= {} P{X, Y} ::= X":                                  api.ErrArity,
		"C ::= CLASS {&id C.&id ({S})} S D ::= {}":                                                             api.ErrType,
		"x D ::= {&Type P{NULL}} P{X, Y} ::= X":                                                                api.ErrArity,
		"x C ::= {&A NULL, &B P{NULL}} P{X, Y} ::= X C ::= CLASS {&id INTEGER}":                                api.ErrArity,
		"x C ::= {&nr 1} C ::= CLASS {&id INTEGER}":                                                            api.ErrMissing,
		"S C ::= {x | y} x D ::= {&id 1} C ::= CLASS {&id INTEGER}":                                            api.ErrType,
		"S C ::= {y | x} x D ::= {&id 1} C ::= CLASS {&id INTEGER}":                                            api.ErrMissing,
		"S C ::= {x | y | z} x C ::= {&id 1} y C ::= {&id 1} C ::= CLASS {&id INTEGER}":                        api.ErrMissing,
		"S C ::= {x | y | z} x C ::= {&id 1} y C ::= {&id 1} z D ::= {&id 2} C ::= CLASS {&id INTEGER UNIQUE}": api.ErrType,
	} {
		wantObjects(t, text, programOf(t, "M EXPLICIT "+text), place(0, 0), want)
	}
}
