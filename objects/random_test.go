package objects_test

import (
	"fmt"
	"math/rand"
	"slices"
	"strings"

	"examiner/api"
	"examiner/notation"
)

// A maker makes modules with parameterized types, classes, objects and sets, as texts, types and values at random.
type maker struct {
	*rand.Rand
	params []string // names of types that are parameters
	flat   bool     // no classes are used
	closed bool     // no open types are used
}

func newMaker(seed int64) *maker { return &maker{Rand: rand.New(rand.NewSource(seed))} }

func (m *maker) one(odds int) bool { return m.Intn(odds) == 0 }

// pick returns one of several things.
func pick[T any](m *maker, l ...T) T { return l[m.Intn(len(l))] }

// typ returns the text of a type at most so deep.
func (m *maker) typ(depth int) string {
	if m.one(5) {
		return fmt.Sprintf("[%d] %s", m.Intn(9), m.typ(depth))
	}
	if len(m.params) > 0 && m.one(3) {
		if m.one(40) {
			return pick(m, m.params...) + " (5)"
		}
		return pick(m, m.params...)
	}
	if depth > 1 && !m.one(3) {
		return m.structure(depth)
	}
	if !m.flat && m.one(3) {
		return m.classUse()
	}
	if m.one(30) {
		return pick(m, "P", "ANY", "N-9", "Type-x", "P-1", "P-1")
	}
	return pick(m, "NULL", "BOOLEAN", "INTEGER", "INTEGER (0..9)", "A", "B", "B (5)", "IA5String (SIZE (1))")
}

// structure returns the text of a type that has others within it.
func (m *maker) structure(depth int) string {
	switch m.Intn(8) {
	case 0:
		return "SEQUENCE (SIZE (2)) OF " + m.typ(depth-1)
	case 1:
		return "SET OF " + m.typ(depth-1)
	case 2:
		return fmt.Sprintf("CHOICE {n NULL, c %s}", m.typ(depth-1))
	case 3, 4, 5:
		return m.parameterUse(depth)
	}
	l := []string{"a " + m.typ(depth-1), "b " + m.typ(depth-1) + " OPTIONAL"}
	if !m.flat && !m.closed && !m.one(3) {
		l = append(l, "i "+m.classUse(), fmt.Sprintf("v %sC.&%s ({%s}{@%s})", pick(m, "", "", "[7] "), pick(m, "Type", "Other"), pick(m, "S", "R"), pick(m, "i", "i", "i", "a")))
	}
	m.Shuffle(len(l), func(i, j int) { l[i], l[j] = l[j], l[i] })
	l = l[m.Intn(len(l)):]
	if m.one(4) {
		l = append(l, "...")
	}
	return pick(m, "SEQUENCE {", "SEQUENCE {", "SET {") + strings.Join(l, ", ") + "}"
}

func (m *maker) parameterUse(depth int) string {
	wasClosed := m.closed
	m.closed = !m.one(15)
	defer func() { m.closed = wasClosed }()
	if m.one(60) {
		return fmt.Sprintf("%s{%s}", pick(m, "P", "Q", "N", "A", "C"), m.typ(1))
	}
	if m.one(2) {
		return fmt.Sprintf("P{%s}", m.typ(depth-1))
	}
	return fmt.Sprintf("Q{%s, %s}", m.typ(depth-1), m.typ(1))
}

func (m *maker) classUse() string {
	if m.one(60) {
		return fmt.Sprintf("%s.&%s ({%s})", pick(m, "C", "K", "A"), pick(m, "id", "T", "Type"), pick(m, "S", "U", "W"))
	}
	if m.closed {
		return pick(m, "K.&k ({U})", "C.&id ({R})", "C.&id ({S})", "C.&list ({E})")
	}
	if m.one(4) {
		return pick(m, "K.&k ({U})", "K.&T ({U})")
	}
	return fmt.Sprintf("C.&%s ({%s})", pick(m, "id", "id", "name", "list", "Type", "Other"), pick(m, "S", "R", "E"))
}

// module returns the text of a module, or of a simpler one.
func (m *maker) module(name string, imports string) string {
	items := m.parts()
	for i := range items {
		if m.one(40) {
			items[i] = ""
		}
	}
	m.Shuffle(len(items), func(i, j int) { items[i], items[j] = items[j], items[i] })
	return name + pick(m, " EXPLICIT ", " AUTOMATIC ") + pick(m, "EXPORTS ALL; ", "EXPORTS ALL; ", "EXPORTS A, C, x, P, S; ") + imports + strings.Join(items, " ")
}

// parts returns the texts of items.
func (m *maker) parts() []string {
	m.params, m.flat = nil, false
	items := []string{"A ::= " + m.typ(4), "T ::= " + m.within(), "B ::= INTEGER (0..9)", "v " + m.typ(2) + " ::= 5"}
	if m.one(2) {
		items = append(items, "D ::= "+m.typ(4))
	}
	m.params = []string{"X"}
	items = append(items, "P{X} ::= "+m.typ(3))
	m.params = []string{"X", "Y"}
	items = append(items, pick(m, "Q{X, Y} ::= ", "Q{X, Y} ::= ", "Q{X, Y} ::= ", "Q{Y, X} ::= ")+m.typ(3))
	m.params, m.flat = nil, !m.one(20)
	items = append(items, fmt.Sprintf("C ::= CLASS {&id %sINTEGER (0..9)%s, &Type, &name IA5String%s OPTIONAL, &Other OPTIONAL, &list %s OPTIONAL}", pick(m, "", "[1] "), pick(m, "", " UNIQUE", " UNIQUE"), pick(m, "", " UNIQUE"), m.typ(3)))
	items = append(items, pick(m, "K ::= CLASS {&k SET OF INTEGER UNIQUE, &T}", "K ::= CLASS {&k INTEGER UNIQUE, &T OPTIONAL}"))
	m.flat = m.one(2)
	for i, name := range []string{"x", "y", "z"} {
		items = append(items, m.object(name, i))
	}
	items = append(items, "k K ::= {&k "+pick(m, "1", "{1, 2}")+", &T "+m.typ(2)+"}")
	items = append(items, "S C ::= {"+pick(m, "x | y", "y | x", "x | y, ...", "z | y | x", "x")+"}", "R C ::= {"+pick(m, "z | y | x, ...", "x | z", "y", "...")+"}", pick(m, "U K ::= {k}", "U K ::= {k}", "U K ::= {}"), "E C ::= {}")
	return items
}

// within returns the text of a type that has a record within it, with a component that says what is in another one.
func (m *maker) within() string {
	pair := fmt.Sprintf("SEQUENCE {a %s, i C.&%s ({S}), v C.&%s ({%s}{@i})}", m.typ(2), pick(m, "id", "id", "name"), pick(m, "Type", "Other"), pick(m, "S", "R"))
	switch m.Intn(4) {
	case 0:
		return pair
	case 1:
		return "SET OF " + pair
	case 2:
		return "SEQUENCE OF SET OF " + pair
	}
	return "CHOICE {n NULL, c SEQUENCE {b " + pair + "}}"
}

// object returns the text of an object of the class C.
func (m *maker) object(name string, i int) string {
	id := fmt.Sprint(i)
	switch m.Intn(40) {
	case 0:
		id = "TRUE"
	case 1:
		id = "1"
	}
	l := []string{"&id " + id, "&Type " + m.typ(2), "&name \"" + name + "\"", "&Other " + m.typ(2)}
	class := "C"
	switch m.Intn(60) {
	case 0:
		class = "K"
	case 1:
		l = l[1:]
	case 2:
		l = append(l, "&no 5")
	}
	if m.one(2) {
		l = slices.DeleteFunc(l, func(s string) bool { return m.one(2) && (s[1] == 'n' || s[1] == 'O') })
	}
	m.Shuffle(len(l), func(i, j int) { l[i], l[j] = l[j], l[i] })
	return fmt.Sprintf("%s %s ::= {%s}", name, class, strings.Join(l, ", "))
}

// program returns the texts of modules, as moduleOf reads them.
func (m *maker) program() []string {
	l := []string{m.module("M", "")}
	if m.one(3) {
		imports := ""
		switch m.Intn(10) {
		case 0:
			imports = "IMPORTS P FROM M; "
		case 1:
			imports = "IMPORTS N-9, Type-x FROM M; "
		case 2:
			imports = "IMPORTS N-9 FROM L; "
		}
		l = append(l, m.module("N", imports))
	}
	if m.one(6) {
		l = append(l, "O EXPLICIT IMPORTS A FROM M; T ::= SET OF A")
	}
	return l
}

// readModules returns the modules with texts, whose open types are references to ANY, if they can be read.
func readModules(texts []string) ([]api.AsnModule, bool) {
	var l []api.AsnModule
	for _, text := range texts {
		words := strings.SplitN(text, " ", 3)
		m, _, e := notation.ParseModule(words[0] + " DEFINITIONS " + words[1] + " TAGS ::= BEGIN " + words[2] + " END")
		if e != api.OK {
			return nil, false
		}
		l = append(l, m)
	}
	return l, true
}

// written returns modules in which references to ANY have become open types.
func written(l []api.AsnModule) []api.AsnModule {
	l = deepCopy(l)
	for _, m := range l {
		for i := range m.Items {
			a := &m.Items[i]
			a.Type = withOpen(a.Type)
			for _, f := range a.Class {
				for k := range f.Fixed {
					f.Fixed[k] = withOpen(f.Fixed[k])
				}
			}
			for _, g := range a.Settings {
				for k := range g.Type {
					g.Type[k] = withOpen(g.Type[k])
				}
			}
		}
	}
	return l
}

// value returns a value of a type, at most so deep: references and open types have any values.
func (m *maker) value(y api.Type, depth int) api.Value {
	if depth < 2 {
		return number(m.Intn(3))
	}
	switch y.Kind {
	case api.TypeRecord, api.TypeSet:
		v := record("")
		for _, i := range m.Perm(len(y.Fields)) {
			if !m.one(6) {
				v.Names = append(v.Names, y.Fields[i].Name)
				v.Items = append(v.Items, m.value(y.Fields[i].Type, depth-1))
			}
		}
		return v
	case api.TypeList, api.TypeBag:
		v := list()
		for range m.Intn(4) {
			v.Items = append(v.Items, m.value(y.Of[0], depth-1))
		}
		return v
	case api.TypeUnion:
		f := pick(m, y.Fields...)
		return union(f.Name, m.value(f.Type, depth-1))
	case api.TypeOpen:
		return m.openValue(y)
	}
	return number(m.Intn(3))
}

// openValue returns a value of a field of a class.
func (m *maker) openValue(y api.Type) api.Value {
	switch {
	case y.Name == "name":
		return chars(pick(m, "x", "y", "z"))
	case y.Name == "" || y.Name[0] > 'Z':
		return number(m.Intn(3))
	case m.one(6):
		return unnamed("5")
	}
	return open(y.Name+"-"+pick(m, "x", "x", "y", "y", "z"), number(5))
}
