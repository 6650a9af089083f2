package objects_test

import (
	"fmt"
	"strings"
	"testing"

	"examiner/api"
	"examiner/objects"
)

// P7.2: modules, and what they become.
func TestExpanded(t *testing.T) {
	for _, x := range [][2]string{
		{"M EXPLICIT ", "M EXPLICIT "},
		{"M AUTOMATIC A ::= [1] SEQUENCE {a B DEFAULT 5, ...} B ::= INTEGER (0..9) v B (5) ::= 5 O ::= ANY", "M AUTOMATIC A ::= [1] SEQUENCE {a B DEFAULT 5, ...} B ::= INTEGER (0..9) v B (5) ::= 5 O ::= ANY"},
		// instances
		{"M EXPLICIT P{X} ::= SEQUENCE OF X A ::= P{INTEGER} B ::= P{INTEGER}",
			"M EXPLICIT A ::= P-1 B ::= P-1 P-1 ::= SEQUENCE OF INTEGER"},
		{"M EXPLICIT B ::= SET OF [1] P{A} (SIZE (1)) P{X} ::= SEQUENCE OF X A ::= P{INTEGER}",
			"M EXPLICIT B ::= SET OF [1] P-1 (SIZE (1)) A ::= P-2 P-1 ::= SEQUENCE OF A P-2 ::= SEQUENCE OF INTEGER"},
		{"M EXPLICIT A ::= SEQUENCE {a P{NULL}, b Q{P{NULL}, REAL}, c P{Q{P{NULL}, REAL}}, d Q{REAL, P{NULL}}} P{X} ::= X Q{X, Y} ::= CHOICE {x X, y Y}",
			"M EXPLICIT A ::= SEQUENCE {a P-1, b Q-1, c P-2, d Q-2} P-1 ::= NULL Q-1 ::= CHOICE {x P-1, y REAL} P-2 ::= Q-1 Q-2 ::= CHOICE {x REAL, y P-1}"},
		{"M EXPLICIT A ::= P{Q{R{NULL}}} P{X} ::= [1] X Q{X} ::= [2] X R{X} ::= [3] X",
			"M EXPLICIT A ::= P-1 R-1 ::= [3] NULL Q-1 ::= [2] R-1 P-1 ::= [1] Q-1"},
		{"M EXPLICIT v P{NULL} ::= {NULL} w [5] P{NULL} ::= {} P{X} ::= SET OF X",
			"M EXPLICIT v P-1 ::= {NULL} w [5] P-1 ::= {} P-1 ::= SET OF NULL"},
		{"M EXPLICIT P{X, Y} ::= NULL A ::= P{NULL, REAL} B ::= P{REAL, NULL} C ::= P{NULL, REAL} D ::= P{NULL, NULL}",
			"M EXPLICIT A ::= P-1 B ::= P-2 C ::= P-1 D ::= P-3 P-1 ::= NULL P-2 ::= NULL P-3 ::= NULL"},
		// texts tell instances apart, not meanings
		{"M EXPLICIT P{X} ::= X A ::= INTEGER B ::= P{A} C ::= P{INTEGER} D ::= P{[1] A} E ::= P{A (1)} F ::= P{A (1..1)}",
			"M EXPLICIT A ::= INTEGER B ::= P-1 C ::= P-2 D ::= P-3 E ::= P-4 F ::= P-4 P-1 ::= A P-2 ::= INTEGER P-3 ::= [1] A P-4 ::= A (1)"},
		// within instances
		{"M EXPLICIT T{X} ::= SEQUENCE {a X, b T{X} OPTIONAL} A ::= T{INTEGER} B ::= T{NULL}",
			"M EXPLICIT A ::= T-1 B ::= T-2 T-1 ::= SEQUENCE {a INTEGER, b T-1 OPTIONAL} T-2 ::= SEQUENCE {a NULL, b T-2 OPTIONAL}"},
		{"M EXPLICIT T{X, Y} ::= CHOICE {a X, b T{Y, X}} A ::= T{INTEGER, NULL}",
			"M EXPLICIT A ::= T-1 T-1 ::= CHOICE {a INTEGER, b T-2} T-2 ::= CHOICE {a NULL, b T-1}"},
		{"M EXPLICIT A ::= P{SET OF P{NULL}} P{X} ::= SEQUENCE {a X, q Q{X}} Q{X} ::= SEQUENCE {p P{NULL} OPTIONAL, x X}",
			"M EXPLICIT A ::= P-2 P-1 ::= SEQUENCE {a NULL, q Q-1} P-2 ::= SEQUENCE {a SET OF P-1, q Q-2} Q-1 ::= SEQUENCE {p P-1 OPTIONAL, x NULL} Q-2 ::= SEQUENCE {p P-1 OPTIONAL, x SET OF P-1}"},
		// parameters: tags before, names of types hidden, all else as it is written
		{"M EXPLICIT P{X} ::= SEQUENCE {a [1] [2] X DEFAULT 5, ..., [[b X OPTIONAL]], c Y} A ::= P{[3] INTEGER (0..9)} X ::= NULL Y ::= X",
			"M EXPLICIT A ::= P-1 X ::= NULL Y ::= X P-1 ::= SEQUENCE {a [1] [2] [3] INTEGER (0..9) DEFAULT 5, ..., [[b [3] INTEGER (0..9) OPTIONAL]], c Y}"},
		{"M EXPLICIT P{X, Y} ::= SEQUENCE {a X, b Y} A ::= P{Y, X} X ::= NULL Y ::= REAL",
			"M EXPLICIT A ::= P-1 X ::= NULL Y ::= REAL P-1 ::= SEQUENCE {a Y, b X}"},
		{"M EXPLICIT P{X} ::= SEQUENCE {a A, b B (5)} A ::= P{NULL} B ::= INTEGER",
			"M EXPLICIT A ::= P-1 B ::= INTEGER P-1 ::= SEQUENCE {a A, b B (5)}"},
		// what is not used is not looked at
		{"M EXPLICIT P{X} ::= X (5) Q{X} ::= SEQUENCE OF Q{SET OF X} A-name-that-is-as-long-as-it-may{X} ::= NULL C ::= CLASS {&id NULL} x C ::= {&id 1} S C ::= {x}", "M EXPLICIT "},
		// what is left out is not exported
		{"M EXPLICIT EXPORTS A, P, v, C, x, S; A ::= NULL P{X} ::= X v NULL ::= NULL C ::= CLASS {&id NULL} x C ::= {&id 1} S C ::= {x}",
			"M EXPLICIT EXPORTS A, v; A ::= NULL v NULL ::= NULL"},
		{"M EXPLICIT EXPORTS P; A ::= P{NULL} P{X} ::= X", "M EXPLICIT EXPORTS; A ::= P-1 P-1 ::= NULL"},
	} {
		wantExpanded(t, x[0], programOf(t, x[0]), programOf(t, x[1]), api.OK)
	}
}

// P7.2: classes, objects and sets, and what they become.
func TestExpandedClasses(t *testing.T) {
	const some, types = someObjects, " Type-x ::= NULL Type-y ::= [4] BOOLEAN Other-y ::= REAL Type-z ::= NULL"
	const class = " C ::= CLASS {&a INTEGER (0..9), &b [1] SET (SIZE (2)) OF P{INTEGER}, &c [2] T (5), &d IA5String (SIZE (1)), &e P{P{NULL}}} P{X} ::= SEQUENCE OF X T ::= INTEGER S C ::= {}"
	for _, x := range [][2]string{
		{"M EXPLICIT" + some, "M EXPLICIT" + types},
		{"M EXPLICIT A ::= SEQUENCE {i C.&id ({S}), v C.&Type ({S}{@i})}" + some, "M EXPLICIT A ::= SEQUENCE {i INTEGER (1 | 2), v ANY}" + types},
		{"M EXPLICIT A ::= [1] [2] C.&Other ({S}) B ::= [3] C.&id ({R})" + some, "M EXPLICIT A ::= [1] [2] ANY B ::= [3] INTEGER (3 | 2 | 1, ...)" + types},
		{"M EXPLICIT v C.&id ({S}) ::= 1 w C.&name ({S}) ::= \"y\"" + some, "M EXPLICIT v INTEGER (1 | 2) ::= 1 w IA5String ::= \"y\"" + types},
		{"M EXPLICIT A ::= C.&id ({E}) B ::= C.&id ({O})" + some, "M EXPLICIT A ::= INTEGER B ::= INTEGER" + types},
		// types of fields: that of whole numbers gets another constraint, or none
		{"M EXPLICIT A ::= [7] C.&a ({S}) B ::= [8] C.&b ({S}) D ::= [9] C.&c ({S}) E ::= C.&d ({S}) F ::= SET OF [5] C.&e ({S})" + class,
			"M EXPLICIT A ::= [7] INTEGER B ::= [8] [1] SET (SIZE (2)) OF P-1 D ::= [9] [2] T (5) E ::= IA5String (SIZE (1)) F ::= SET OF [5] P-3 T ::= INTEGER P-1 ::= SEQUENCE OF INTEGER P-2 ::= SEQUENCE OF NULL P-3 ::= SEQUENCE OF P-2"},
		// a value for each object that has one, also if it is the same
		{"M EXPLICIT A ::= C.&nr ({S}) C ::= CLASS {&nr INTEGER (0..9) OPTIONAL, &id INTEGER} S C ::= {z | x | y | w} w C ::= {&nr 5, &id 1} x C ::= {&id 2} y C ::= {&id 3, &nr -5} z C ::= {&nr 5, &id 4}",
			"M EXPLICIT A ::= INTEGER (5 | -5 | 5)"},
		{"M EXPLICIT A ::= C.&nr ({S}) C ::= CLASS {&nr INTEGER (0..9) OPTIONAL, &id INTEGER} S C ::= {x, ...} x C ::= {&id 2}", "M EXPLICIT A ::= INTEGER"},
		{"M EXPLICIT A ::= C.&nr ({S}) C ::= CLASS {&nr INTEGER (0..9, ..., 20)} S C ::= {x, ...} x C ::= {&nr 12}", "M EXPLICIT A ::= INTEGER (12, ...)"},
		// types of objects are added where the objects stand, in the order of the settings, and gone through
		{"M EXPLICIT x C ::= {&B P{NULL}, &A SET OF C.&A ({S})} A ::= P{P{REAL}} P{X} ::= X C ::= CLASS {&A, &B} y C ::= {&A A, &B P{NULL}} S C ::= {x}",
			"M EXPLICIT A ::= P-2 B-x ::= P-3 A-x ::= SET OF ANY P-1 ::= REAL P-2 ::= P-1 A-y ::= A B-y ::= P-3 P-3 ::= NULL"},
		// within actual parameters and instances
		{"M EXPLICIT A ::= P{C.&id ({S})} B ::= P{INTEGER (1 | 2)} P{X} ::= SEQUENCE {x X, i C.&id ({R}), v C.&Type ({R}{@i})}" + some,
			"M EXPLICIT A ::= P-1 B ::= P-1 P-1 ::= SEQUENCE {x INTEGER (1 | 2), i INTEGER (3 | 2 | 1, ...), v ANY}" + types},
		{"M EXPLICIT D ::= CLASS {&f P{NULL}} P{X} ::= SEQUENCE {d SET OF D.&f ({DD}), x X} DD D ::= {} A ::= P{REAL}",
			"M EXPLICIT A ::= P-1 P-1 ::= SEQUENCE {d SET OF P-2, x REAL} P-2 ::= SEQUENCE {d SET OF P-2, x NULL}"},
		// the names that are added may be used
		{"M EXPLICIT A ::= SEQUENCE {a Type-x, b P-1} v ANY ::= Type-x: NULL B ::= P{NULL} P{X} ::= SET OF X" + some,
			"M EXPLICIT A ::= SEQUENCE {a Type-x, b P-1} v ANY ::= Type-x: NULL B ::= P-1 P-1 ::= SET OF NULL" + types},
	} {
		wantExpanded(t, x[0], programOf(t, x[0]), programOf(t, x[1]), api.OK)
	}
}

// P7.2: several modules, which may import what is added.
func TestExpandedPrograms(t *testing.T) {
	l := programOf(t,
		"M AUTOMATIC IMPORTS T, P-1, Type-x FROM N; A ::= Q{T} Q{X} ::= SEQUENCE {a X, b P-1, c Type-x}",
		"N IMPLICIT IMPORTS A FROM M; T ::= P{A} P{X} ::= SET OF X C ::= CLASS {&Type} x C ::= {&Type NULL}")
	want := programOf(t,
		"M AUTOMATIC IMPORTS T, P-1, Type-x FROM N; A ::= Q-1 Q-1 ::= SEQUENCE {a T, b P-1, c Type-x}",
		"N IMPLICIT IMPORTS A FROM M; T ::= P-1 P-1 ::= SET OF A Type-x ::= NULL")
	wantExpanded(t, "two modules", l, want, api.OK)
	l[1].All = false
	l[1].Exports = []string{"T", "P", "x"}
	wantExpanded(t, "what is added is not exported by name", l, nil, api.ErrScope)
	l = programOf(t, "M EXPLICIT A ::= P{NULL} P{X} ::= X", "N EXPLICIT A ::= P{REAL} P{X} ::= SET OF X")
	want = programOf(t, "M EXPLICIT A ::= P-1 P-1 ::= NULL", "N EXPLICIT A ::= P-1 P-1 ::= SET OF REAL")
	wantExpanded(t, "names of one module do not matter in another one", l, want, api.OK)
}

// many returns numbered texts with something between.
func many(n int, format, between string) string {
	var l []string
	for i := range n {
		l = append(l, strings.ReplaceAll(format, "#", fmt.Sprint(i+1)))
	}
	return strings.Join(l, between)
}

// P7.2: each error of Expanded.
func TestExpandedFaults(t *testing.T) {
	const class = " C ::= CLASS {&id INTEGER OPTIONAL, &Type OPTIONAL}"
	objectsOf := func(n int, more string) string {
		return class + " S C ::= {" + many(n, "x#", " | ") + more + "} " + many(n, "x# C ::= {&id #}", " ")
	}
	for _, x := range []struct {
		texts []string
		want  api.Errno
	}{
		{nil, api.ErrEmpty},
		{[]string{"M EXPLICIT A ::= P{NULL}"}, api.ErrMissing},
		{[]string{"M EXPLICIT P{X} ::= X A ::= P{NULL, NULL}"}, api.ErrArity},
		// what has no text cannot be an actual parameter
		{[]string{"M EXPLICIT P{X} ::= NULL A ::= P{ANY}"}, api.ErrRefused},
		{[]string{"M EXPLICIT P{X, Y} ::= NULL A ::= P{NULL, SET OF SEQUENCE {a ANY}}"}, api.ErrRefused},
		{[]string{"M EXPLICIT P{X} ::= NULL A ::= P{C.&Type ({S})}" + class + " S C ::= {}"}, api.ErrRefused},
		{[]string{"M EXPLICIT P{X} ::= NULL A ::= P{C.&id ({S})}" + class + " S C ::= {}"}, api.OK},
		// instances without end
		{[]string{"M EXPLICIT T{X} ::= SEQUENCE {a T{SEQUENCE OF X} OPTIONAL, b T{SET OF X} OPTIONAL}"}, api.OK},
		{[]string{"M EXPLICIT T{X} ::= SEQUENCE {a T{SEQUENCE OF X} OPTIONAL, b T{SET OF X} OPTIONAL} A ::= T{NULL}"}, api.ErrLoop},
		{[]string{"M EXPLICIT T{X} ::= SEQUENCE {a T{SEQUENCE OF X} OPTIONAL} A ::= T{NULL}"}, api.ErrLarge},
		{[]string{"M EXPLICIT T{X} ::= T{[1] X} A ::= T{NULL}"}, api.ErrLarge},
		// Substituted
		{[]string{"M EXPLICIT P{X} ::= X (5) A ::= P{INTEGER}"}, api.ErrRefused},
		{[]string{"M EXPLICIT P{X} ::= SET OF [1] [2] X A ::= P{[3] [4] INTEGER}"}, api.ErrLarge},
		{[]string{"M EXPLICIT P{X} ::= SET OF SET OF X A ::= P{" + strings.Repeat("SET OF ", 6) + "NULL}"}, api.OK},
		{[]string{"M EXPLICIT P{X} ::= SET OF SET OF SET OF X A ::= P{" + strings.Repeat("SET OF ", 6) + "NULL}"}, api.ErrLarge},
		// values for constraints
		{[]string{"M EXPLICIT A ::= C.&id ({S})" + class + " S C ::= {x | y} x C ::= {&id 1} y C ::= {&id TRUE}"}, api.ErrType},
		{[]string{"M EXPLICIT A ::= C.&id ({S}) C ::= CLASS {&id BOOLEAN} S C ::= {x} x C ::= {&id 1}"}, api.OK},
		{[]string{"M EXPLICIT A ::= C.&id ({S})" + objectsOf(10, "")}, api.OK},
		{[]string{"M EXPLICIT A ::= C.&id ({S})" + objectsOf(10, ", ...")}, api.OK},
		{[]string{"M EXPLICIT A ::= C.&id ({S})" + objectsOf(11, "")}, api.ErrLarge},
		{[]string{"M EXPLICIT A ::= NULL" + objectsOf(11, "")}, api.OK},
		// tags
		{[]string{"M EXPLICIT A ::= [1] [2] C.&id ({S}) C ::= CLASS {&id [3] BOOLEAN} S C ::= {}"}, api.OK},
		{[]string{"M EXPLICIT A ::= [1] [2] C.&id ({S}) C ::= CLASS {&id [3] [4] BOOLEAN} S C ::= {}"}, api.ErrLarge},
		{[]string{"M EXPLICIT A ::= [1] [2] C.&id ({S}) C ::= CLASS {&id [3] [4] INTEGER} S C ::= {}"}, api.ErrLarge},
		{[]string{"M EXPLICIT A ::= [1] [2] P{NULL} P{X} ::= [3] [4] X"}, api.OK},
		// new names
		{[]string{"M EXPLICIT A ::= A-name-that-is-not-much-too-long{NULL} A-name-that-is-not-much-too-long{X} ::= X"}, api.ErrName},
		{[]string{"M EXPLICIT A ::= A-name-that-is-not-too-long-at{NULL} A-name-that-is-not-too-long-at{X} ::= X"}, api.OK},
		{[]string{"M EXPLICIT x-with-a-name-that-is-long C ::= {&Type NULL} C ::= CLASS {&Type}"}, api.OK},
		{[]string{"M EXPLICIT x-with-a-name-that-is-longs C ::= {&Type NULL} C ::= CLASS {&Type}"}, api.OK},
		{[]string{"M EXPLICIT x-with-a-name-that-is-longer C ::= {&Type NULL} C ::= CLASS {&Type}"}, api.ErrName},
		{[]string{"M EXPLICIT A ::= P{NULL} P-1 ::= NULL P{X} ::= X"}, api.ErrExists},
		{[]string{"M EXPLICIT A ::= P{NULL} P-1 ::= CLASS {&Type} P{X} ::= X"}, api.ErrExists},
		{[]string{"M EXPLICIT P-1{X} ::= P{X} P{X} ::= X A ::= P{NULL}"}, api.ErrExists},
		{[]string{"M EXPLICIT IMPORTS A FROM O P-1 FROM N; B ::= P{NULL} P{X} ::= X"}, api.ErrExists},
		{[]string{"M EXPLICIT B ::= P{NULL} P{X} ::= X P-2 ::= NULL"}, api.OK},
		{[]string{"M EXPLICIT B ::= P{NULL} D ::= P{REAL} P{X} ::= X P-2 ::= NULL"}, api.ErrExists},
		{[]string{"M EXPLICIT Type-x C ::= {} x C ::= {&Type NULL} C ::= CLASS {&Type}"}, api.ErrExists},
		{[]string{"M EXPLICIT a-b C ::= {&A NULL} b D ::= {&A-a NULL} C ::= CLASS {&A} D ::= CLASS {&A-a}"}, api.ErrExists},
		{[]string{"M EXPLICIT a-1 C ::= {&A NULL} C ::= CLASS {&A} B ::= A-a{NULL} A-a{X} ::= X"}, api.ErrExists},
		// the program
		{[]string{"M EXPLICIT A ::= B"}, api.ErrMissing},
		{[]string{"M EXPLICIT A ::= P P{X} ::= X"}, api.ErrMissing},
		{[]string{"M EXPLICIT P{X} ::= SEQUENCE {a X, b Y} A ::= P{NULL}"}, api.ErrMissing},
		{[]string{"M EXPLICIT P{X} ::= SEQUENCE {a X, b Y}"}, api.OK},
		{[]string{"M EXPLICIT x C ::= {&Type B} C ::= CLASS {&Type}"}, api.ErrMissing},
		{[]string{"M EXPLICIT IMPORTS T FROM N;"}, api.ErrMissing},
		{[]string{"M EXPLICIT IMPORTS T FROM N;", "N EXPLICIT "}, api.ErrScope},
		{[]string{"M EXPLICIT IMPORTS T FROM N;", "N EXPLICIT IMPORTS T FROM M;"}, api.ErrLoop},
		{[]string{"M EXPLICIT A ::= SEQUENCE OF C.&id ({S}) C ::= CLASS {&id " + strings.Repeat("SET OF ", 7) + "NULL} S C ::= {}"}, api.OK},
		{[]string{"M EXPLICIT A ::= SEQUENCE OF C.&id ({S}) C ::= CLASS {&id " + strings.Repeat("SET OF ", 8) + "NULL} S C ::= {}"}, api.ErrLarge},
	} {
		l := programOf(t, x.texts...)
		if got, e := objects.Expanded(l); e != x.want || e != api.OK && got != nil {
			t.Errorf("%.300s: %s, error %d, want %d", x.texts, short(got), e, x.want)
		}
	}
}

// P7.2: at most MaxTypes instances, of all parameterized types of a module together.
func TestMostInstances(t *testing.T) {
	uses := func(p, q int) string {
		return "P{X} ::= X Q{X} ::= X A ::= SEQUENCE {" + many(p, "a# P{[#] NULL}", ", ") + "} B ::= SEQUENCE {" + many(q, "a# Q{[#] NULL}", ", ") + "}"
	}
	for _, x := range []struct {
		p, q int
		want api.Errno
	}{{12, 12, api.OK}, {16, 8, api.OK}, {16, 9, api.ErrLoop}, {12, 13, api.ErrLoop}} {
		l, e := objects.Expanded(programOf(t, "M EXPLICIT "+uses(x.p, x.q), "N EXPLICIT "+uses(1, 1)))
		if e != x.want || e == api.OK && len(l[0].Items) != 2+x.p+x.q {
			t.Errorf("%d and %d instances: %s, error %d", x.p, x.q, short(l), e)
		}
	}
}

// P7.2: at most MaxAssigned items, those that are left out not counted.
func TestMostItems(t *testing.T) {
	classes := func(n int) string { return many(n, "C# ::= CLASS {&A, &B, &D OPTIONAL}", " ") }
	for _, x := range []struct {
		text string
		want api.Errno
	}{
		{classes(1) + " " + many(15, "x# C1 ::= {&A NULL, &B NULL}", " "), api.OK},
		{classes(15) + " " + many(15, "x# C1 ::= {&A NULL, &B NULL}", " "), api.OK},
		{classes(1) + " A ::= NULL " + many(15, "x# C1 ::= {&A NULL, &B NULL}", " "), api.ErrLarge},
		{classes(1) + " " + many(14, "x# C1 ::= {&A NULL, &B NULL}", " ") + " y C1 ::= {&A NULL, &B NULL, &D NULL}", api.ErrLarge},
		{"P{X} ::= X " + many(12, "A# ::= P{[#] NULL}", " ") + many(6, " B# ::= NULL", " "), api.OK},
		{"P{X} ::= X " + many(12, "A# ::= P{[#] NULL}", " ") + many(7, " B# ::= NULL", " "), api.ErrLarge},
	} {
		if l, e := objects.Expanded(programOf(t, "M EXPLICIT "+x.text)); e != x.want {
			t.Errorf("%.300s: %s, error %d, want %d", x.text, short(l), e, x.want)
		}
	}
}

// P7.2: of several errors the one that is met first, in each place the one that is listed first.
func TestOrderOfExpandedFaults(t *testing.T) {
	const class = " C ::= CLASS {&id INTEGER OPTIONAL, &Type OPTIONAL, &big [1] [2] INTEGER OPTIONAL} S C ::= {x} x C ::= {&id TRUE, &big TRUE} Q{X} ::= X (5)"
	great := class + " G C ::= {" + many(11, "g#", " | ") + " | x} " + many(11, "g# C ::= {&id #}", " ")
	loop := " A ::= SEQUENCE {" + many(16, "a# P{[#] NULL}", ", ") + "} B ::= SEQUENCE {" + many(8, "a# P{[#] REAL}", ", ") + "} P{X} ::= X"
	const long = "A-name-that-is-not-much-too-long"
	for _, x := range []struct {
		texts []string
		want  api.Errno
	}{
		// in the order in which things are met
		{[]string{"M EXPLICIT A ::= SEQUENCE {a P{ANY}, b C.&id ({S})} P{X} ::= X" + class}, api.ErrRefused},
		{[]string{"M EXPLICIT A ::= SEQUENCE {b C.&id ({S}), a P{ANY}} P{X} ::= X" + class}, api.ErrType},
		{[]string{"M EXPLICIT A ::= P{ANY, C.&id ({S})} P{X, Y} ::= X" + class}, api.ErrType},
		{[]string{"M EXPLICIT A ::= P{ANY, P{NULL, NULL}} P{X, Y} ::= X P-1 ::= NULL"}, api.ErrExists},
		{[]string{"M EXPLICIT A ::= P{NULL} B ::= C.&id ({S}) P{X} ::= C.&Type ({S}) P-2 ::= P{Q{NULL}}" + class}, api.ErrType},
		{[]string{"M EXPLICIT A ::= P{NULL} B ::= Q{NULL} P{X} ::= C.&id ({S})" + class}, api.ErrRefused},
		{[]string{"M EXPLICIT A ::= P{NULL} B ::= NULL P{X} ::= C.&id ({S})" + class}, api.ErrType},
		{[]string{"M EXPLICIT y C ::= {&Type Q{NULL}} A ::= C.&id ({S})" + class}, api.ErrType},
		{[]string{"M EXPLICIT " + long + " C ::= {} y C ::= {&Type NULL} Type-y ::= Q{NULL}" + class}, api.ErrExists},
		// of a use of a parameterized type: texts, instances, substituted, names
		{[]string{"M EXPLICIT" + loop + " D ::= P{ANY}"}, api.ErrRefused},
		{[]string{"M EXPLICIT" + loop + " D ::= P{SET OF ANY} E ::= P{BOOLEAN}"}, api.ErrRefused},
		{[]string{"M EXPLICIT" + loop + " D ::= P{BOOLEAN} E ::= P{ANY}"}, api.ErrLoop},
		{[]string{"M EXPLICIT" + loop + " D ::= Q{NULL} Q{X} ::= X (5)"}, api.ErrLoop},
		{[]string{"M EXPLICIT" + loop + " D ::= " + long + "{NULL} " + long + "{X} ::= X"}, api.ErrLoop},
		{[]string{"M EXPLICIT" + loop + " Q-1 ::= Q{NULL} Q{X} ::= X"}, api.ErrLoop},
		{[]string{"M EXPLICIT A ::= " + long + "{NULL} " + long + "{X} ::= X (5)"}, api.ErrRefused},
		{[]string{"M EXPLICIT Q-1 ::= Q{NULL} Q{X} ::= SET OF X (5)"}, api.ErrRefused},
		// of a use of a class: values, constraints and tags
		{[]string{"M EXPLICIT A ::= C.&id ({G})" + great}, api.ErrType},
		{[]string{"M EXPLICIT A ::= [3] [4] C.&big ({S})" + class}, api.ErrType},
		{[]string{"M EXPLICIT A ::= SEQUENCE {a [1] D.&f ({DD})} D ::= CLASS {&f [2] [3] [4] SET OF Q{NULL}} DD D ::= {} Q{X} ::= X (5)"}, api.ErrRefused},
		// what is wrong of names and tags is told where it is met, though the program would have the same error
		{[]string{"M EXPLICIT A ::= " + long + "{NULL} " + long + "{X} ::= X B ::= Q{NULL} Q{X} ::= X (5)"}, api.ErrName},
		{[]string{"M EXPLICIT B ::= Q{NULL} A ::= " + long + "{NULL} " + long + "{X} ::= X Q{X} ::= X (5)"}, api.ErrRefused},
		{[]string{"M EXPLICIT x-with-a-name-that-is-longer C ::= {&Type NULL} B ::= Q{NULL}" + class}, api.ErrName},
		{[]string{"M EXPLICIT A ::= [3] [4] C.&big ({G}) B ::= Q{NULL} G C ::= {}" + class}, api.ErrLarge},
		{[]string{"M EXPLICIT B ::= Q{NULL} A ::= [3] [4] C.&big ({G}) G C ::= {}" + class}, api.ErrRefused},
		// behind all that is met the number of items, module by module, and at last the program
		{[]string{"M EXPLICIT A ::= SEQUENCE {b B, " + many(12, "a# P{[#] NULL}", ", ") + "}" + many(18, " B# ::= NULL", "") + " D ::= Q{NULL} P{X} ::= X Q{X} ::= X (5)"}, api.ErrRefused},
		{[]string{"M EXPLICIT A ::= SEQUENCE {b B, " + many(12, "a# P{[#] NULL}", ", ") + "}" + many(18, " B# ::= NULL", "") + " D ::= Q{NULL} P{X} ::= X Q{X} ::= X"}, api.ErrLarge},
		{[]string{"M EXPLICIT A ::= B P{X} ::= X" + many(15, " A# ::= P{[#] NULL}", ""), "N EXPLICIT A ::= Q{NULL} Q{X} ::= X (5)"}, api.ErrLarge},
		{[]string{"M EXPLICIT A ::= B P{X} ::= X" + many(14, " A# ::= P{[#] NULL}", ""), "N EXPLICIT A ::= Q{NULL} Q{X} ::= X (5)"}, api.ErrRefused},
		{[]string{"M EXPLICIT A ::= B P{X} ::= X" + many(14, " A# ::= P{[#] NULL}", ""), "N EXPLICIT IMPORTS A FROM O;"}, api.ErrMissing},
		{[]string{"M EXPLICIT A ::= B", "N EXPLICIT A ::= Q{NULL} Q{X} ::= X (5)"}, api.ErrRefused},
		{[]string{"M EXPLICIT A ::= Q{NULL} Q{X} ::= X (5)", "N EXPLICIT A ::= Q{NULL}"}, api.ErrMissing},
	} {
		if l, e := objects.Expanded(programOf(t, x.texts...)); e != x.want {
			t.Errorf("%.400s: %s, error %d, want %d", x.texts, short(l), e, x.want)
		}
	}
}

// P7.2: types in which actual types stand in the place of parameters.
func TestSubstituted(t *testing.T) {
	for _, x := range []struct {
		text   string
		params []string
		actual []string
		want   string
	}{
		{"NULL", nil, nil, "NULL"},
		{"X", nil, nil, "X"},
		{"X", []string{"X"}, []string{"NULL"}, "NULL"},
		{"X", []string{"Y"}, []string{"NULL"}, "X"},
		{"X", []string{"X"}, []string{"X"}, "X"},
		{"SEQUENCE {a X, b Y}", []string{"X", "Y"}, []string{"Y", "X"}, "SEQUENCE {a Y, b X}"},
		{"SEQUENCE {a X, b X OPTIONAL, ..., [[c X DEFAULT 5]]}", []string{"X"}, []string{"SET OF X"}, "SEQUENCE {a SET OF X, b SET OF X OPTIONAL, ..., [[c SET OF X DEFAULT 5]]}"},
		{"[1] [APPLICATION 2] IMPLICIT X", []string{"X"}, []string{"[3] EXPLICIT INTEGER (0..9)"}, "[1] [APPLICATION 2] IMPLICIT [3] EXPLICIT INTEGER (0..9)"},
		{"SET (SIZE (2)) OF CHOICE {a T{X, SET OF X}, ..., b SEQUENCE OF X}", []string{"X"}, []string{"CHOICE {a Y}"}, "SET (SIZE (2)) OF CHOICE {a T{CHOICE {a Y}, SET OF CHOICE {a Y}}, ..., b SEQUENCE OF CHOICE {a Y}}"},
		{"X{NULL, X}", []string{"X"}, []string{"REAL"}, "X{NULL, REAL}"},
		{"X{NULL} (5)", []string{"X"}, []string{"REAL"}, "X{NULL} (5)"},
		{"Y (5)", []string{"X"}, []string{"REAL"}, "Y (5)"},
		{"SEQUENCE {a C.&id ({S}), b C.&Type ({S}{@a}), c C}", []string{"C", "S"}, []string{"NULL", "NULL"}, "SEQUENCE {a C.&id ({S}), b C.&Type ({S}{@a}), c NULL}"},
		{"X", []string{"X"}, []string{"C.&id ({S})"}, "C.&id ({S})"},
		{"[1] X", []string{"X"}, []string{"[2] ANY"}, "[1] [2] ANY"},
		{"SEQUENCE {a W, b X, c Y, d Z}", []string{"Z", "Y", "X", "W"}, []string{"NULL", "REAL", "BOOLEAN", "INTEGER"}, "SEQUENCE {a INTEGER, b BOOLEAN, c REAL, d NULL}"},
		{"IA5String", []string{"X"}, []string{"NULL"}, "IA5String"},
	} {
		got, e := objects.Substituted(typeOf(t, x.text), x.params, typesOf(t, x.actual...))
		wantResult(t, x.text, got, e, typeOf(t, x.want), api.OK)
	}
}

// P7.2: each error of Substituted, of several the one that is listed first.
func TestSubstitutedFaults(t *testing.T) {
	wrong := api.Type{Kind: api.TypeKinds}
	misshapen := api.Type{Kind: api.TypeList}
	sets := func(n int) api.Type { return typeOf(t, strings.Repeat("SET OF ", n)+"X") }
	null := api.Type{}
	for _, x := range []struct {
		y      api.Type
		params string
		actual []api.Type
		want   api.Errno
	}{
		{wrong, "X", nil, api.ErrKind},
		{misshapen, "X", nil, api.ErrShape},
		{ref("X"), "X", nil, api.ErrArity},
		{ref("X"), "", []api.Type{null}, api.ErrArity},
		{ref("X"), "X Y", []api.Type{wrong}, api.ErrArity},
		{ref("X"), "A B C D E", []api.Type{null, null, null, null}, api.ErrArity},
		{ref("X"), "A B C D E", []api.Type{null, null, null, null, null}, api.ErrLarge},
		{ref("X"), "a a a a a", []api.Type{wrong, null, null, null, null}, api.ErrLarge},
		{ref("X"), "A B C D", []api.Type{null, null, null, null}, api.OK},
		{null, "x", []api.Type{null}, api.ErrName},
		{null, "X_Y", []api.Type{null}, api.ErrName},
		{null, "X--Y", []api.Type{null}, api.ErrName},
		{null, "NULL", []api.Type{null}, api.ErrName},
		{null, strings.Repeat("X", api.MaxName), []api.Type{null}, api.OK},
		{null, strings.Repeat("X", api.MaxName+1), []api.Type{null}, api.ErrName},
		{null, "X X", []api.Type{null, null}, api.ErrDouble},
		{null, "X Y X", []api.Type{null, null, wrong}, api.ErrDouble},
		{null, "X x X", []api.Type{null, null, null}, api.ErrName},
		{null, "X X x", []api.Type{null, null, null}, api.ErrDouble},
		{null, "X x", []api.Type{wrong, null}, api.ErrName},
		{null, "X Y", []api.Type{null, wrong}, api.ErrKind},
		{null, "X Y", []api.Type{misshapen, wrong}, api.ErrShape},
		{typeOf(t, "X (5)"), "X", []api.Type{wrong}, api.ErrKind},
		{typeOf(t, "X (5)"), "X", []api.Type{null}, api.ErrRefused},
		{typeOf(t, "SET OF T{SEQUENCE {a X (SIZE (5))}}"), "X", []api.Type{null}, api.ErrRefused},
		{typeOf(t, "SEQUENCE {a [1] [2] X, b X (5)}"), "X", []api.Type{typeOf(t, "[3] [4] NULL")}, api.ErrRefused},
		{typeOf(t, "[1] [2] X"), "X", []api.Type{typeOf(t, "[3] NULL")}, api.OK},
		{typeOf(t, "[1] [2] X"), "X", []api.Type{typeOf(t, "[3] [4] NULL")}, api.ErrLarge},
		{sets(4), "X", []api.Type{sets(4)}, api.OK},
		{sets(4), "X", []api.Type{sets(5)}, api.ErrLarge},
		{typeOf(t, "SEQUENCE {a X, b X, c X}"), "X", []api.Type{typeOf(t, "SEQUENCE {"+many(14, "a# NULL", ", ")+"}")}, api.OK},
		{typeOf(t, "SEQUENCE {a X, b X, c X, d X}"), "X", []api.Type{typeOf(t, "SEQUENCE {"+many(14, "a# NULL", ", ")+"}")}, api.ErrLarge},
	} {
		got, e := objects.Substituted(x.y, strings.Fields(x.params), x.actual)
		if e != x.want || e != api.OK && !alike(got, api.Type{}) {
			t.Errorf("%s with %s: %s, error %d, want %d", short(x.y), x.params, short(got), e, x.want)
		}
	}
	_, e := objects.Substituted(null, []string{""}, []api.Type{null})
	wantResult(t, "a parameter without a name", 0, e, 0, api.ErrName)
}
