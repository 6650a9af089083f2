package notation_test

import (
	"fmt"
	"strings"
	"testing"

	"examiner/api"
	"examiner/notation"
)

// largeModule has items of all kinds, imports and exports.
func largeModule() api.AsnModule {
	return api.AsnModule{
		Name: "M", Way: api.WayImplicit, Exports: []string{"T", "v", "a", "B"},
		Imports: []api.Import{{Module: "N", Names: []string{"a", "B"}}, {Module: "O", Names: []string{"c"}}},
		Items: []api.Assigned{
			{Kind: api.ItemType, Name: "T", Type: kind(api.TypeInt)},
			{Kind: api.ItemType, Name: "P", Params: []string{"X", "Y"}, Type: fields(api.TypeRecord, field("a", ref("X")), field("b", ref("Y")))},
			{Kind: api.ItemValue, Name: "v", Type: ref("T"), Value: number(5)},
			{Kind: api.ItemClass, Name: "C", Class: []api.ClassField{{Name: "id", Fixed: []api.Type{kind(api.TypeInt)}, Unique: true}, {Name: "Type", Optional: true}, {Name: "x", Fixed: []api.Type{ref("T")}, Unique: true, Optional: true}, {Name: "y", Fixed: []api.Type{null()}}}},
			{Kind: api.ItemObject, Name: "o", Of: "C", Settings: []api.Setting{{Name: "id", Value: []api.Value{number(1)}}, {Name: "Type", Type: []api.Type{null()}}, {Name: "y", Value: []api.Value{{}}}}},
			{Kind: api.ItemObjects, Name: "S", Of: "C", Names: []string{"o", "o2"}, Open: true},
			{Kind: api.ItemObjects, Name: "S2", Of: "C"},
			{Kind: api.ItemObjects, Name: "S3", Of: "C", Open: true},
			{Kind: api.ItemObjects, Name: "S4", Of: "D", Names: []string{"o"}},
			{Kind: api.ItemType, Name: "U", Type: fields(api.TypeRecord, field("i", classField("id", "C", "S")), field("v", classField("Type", "C", "S", "i")))},
		},
	}
}

const (
	itemT = iota
	itemP
	itemV
	itemC
	itemO
	itemS
)

func TestModulesAccepted(t *testing.T) {
	m := largeModule()
	if n, e := notation.CheckModule(m); n != len(m.Items) || e != api.OK {
		t.Errorf("the large module: %d, %d", n, e)
	}
	full := api.AsnModule{Name: "M", Way: api.WayAutomatic, All: true}
	for i := range api.MaxAssigned {
		full.Items = append(full.Items, api.Assigned{Name: fmt.Sprintf("T%d", i)})
	}
	for i := range api.MaxAsnImports {
		p := api.Import{Module: fmt.Sprintf("N%d", i)}
		for j := range api.MaxItems {
			p.Names = append(p.Names, fmt.Sprintf("n%d-%d", i, j))
		}
		full.Imports = append(full.Imports, p)
	}
	full.Items[0].Params = []string{"A", "B", "C", "D"}
	full.Items[1] = api.Assigned{Kind: api.ItemClass, Name: "C"}
	full.Items[2] = api.Assigned{Kind: api.ItemObject, Name: "o", Of: "C"}
	full.Items[3] = api.Assigned{Kind: api.ItemObjects, Name: "S", Of: "C", Names: full.Imports[0].Names}
	for _, name := range []string{"A", "B", "C", "D", "E"} {
		full.Items[1].Class = append(full.Items[1].Class, api.ClassField{Name: name})
		full.Items[2].Settings = append(full.Items[2].Settings, api.Setting{Name: name, Type: []api.Type{null()}})
	}
	if n, e := notation.CheckModule(full); n != api.MaxAssigned || e != api.OK {
		t.Errorf("a full module: %d, %d", n, e)
	}
	full.All = false
	full.Exports = full.Imports[0].Names
	if n, e := notation.CheckModule(full); n != api.MaxAssigned || e != api.OK {
		t.Errorf("a full module with exports: %d, %d", n, e)
	}
	if n, e := notation.CheckModule(api.AsnModule{Name: "M"}); n != 0 || e != api.OK {
		t.Errorf("an empty module: %d, %d", n, e)
	}
}

// A moduleFault is a change of the large module, and what is told then.
type moduleFault struct {
	what string
	add  func(*api.AsnModule)
	at   int
	want api.Errno
}

func setting(name string, v []api.Value, y []api.Type) []api.Setting {
	return []api.Setting{{Name: name, Value: v, Type: y}}
}

// headFaults are faults before the items, in the order in which they are checked.
func headFaults() []moduleFault {
	numbered := func(n int) []string {
		var l []string
		for i := range n {
			l = append(l, fmt.Sprintf("n%d", i))
		}
		return l
	}
	return []moduleFault{
		{"no name", func(m *api.AsnModule) { m.Name = "" }, 0, api.ErrName},
		{"small name", func(m *api.AsnModule) { m.Name = "m" }, 0, api.ErrName},
		{"reserved word", func(m *api.AsnModule) { m.Name = "INTEGER" }, 0, api.ErrName},
		{"underscore", func(m *api.AsnModule) { m.Name = "M_N" }, 0, api.ErrName},
		{"way below", func(m *api.AsnModule) { m.Way = -1 }, 0, api.ErrRange},
		{"way above", func(m *api.AsnModule) { m.Way = api.Ways }, 0, api.ErrRange},
		{"items", func(m *api.AsnModule) { m.Items = make([]api.Assigned, api.MaxAssigned+1) }, 0, api.ErrLarge},
		{"exports", func(m *api.AsnModule) { m.Exports = make([]string, api.MaxItems+1) }, 0, api.ErrLarge},
		{"imports", func(m *api.AsnModule) { m.Imports = make([]api.Import, api.MaxAsnImports+1) }, 0, api.ErrLarge},
		{"all and some", func(m *api.AsnModule) { m.All = true }, 0, api.ErrForm},
		{"name of an export", func(m *api.AsnModule) { m.Exports[0] = "a_b" }, 0, api.ErrName},
		{"double export", func(m *api.AsnModule) { m.Exports[1] = "T" }, 0, api.ErrDouble},
		{"name of a later export", func(m *api.AsnModule) { m.Exports[3] = "END" }, 0, api.ErrName},
		{"small import", func(m *api.AsnModule) { m.Imports[0].Module = "n" }, 0, api.ErrName},
		{"import from itself", func(m *api.AsnModule) { m.Imports[0].Module = "M" }, 0, api.ErrDouble},
		{"import of nothing", func(m *api.AsnModule) { m.Imports[0].Names = nil }, 0, api.ErrEmpty},
		{"import of much", func(m *api.AsnModule) { m.Imports[0].Names = numbered(api.MaxItems + 1) }, 0, api.ErrLarge},
		{"imported name", func(m *api.AsnModule) { m.Imports[0].Names[0] = "NULL" }, 0, api.ErrName},
		{"same name", func(m *api.AsnModule) { m.Imports[0].Names[1] = "a" }, 0, api.ErrExists},
		{"same module", func(m *api.AsnModule) { m.Imports[1].Module = "N" }, 0, api.ErrDouble},
		{"same name from another one", func(m *api.AsnModule) { m.Imports[1].Names[0] = "a" }, 0, api.ErrExists},
	}
}

// itemFaults are faults of items, in the order in which they are checked.
func itemFaults() []moduleFault {
	of := func(index int, change func(*api.Assigned)) func(*api.AsnModule) {
		return func(m *api.AsnModule) { change(&m.Items[index]) }
	}
	wrong := kind(-1)
	value, y := []api.Value{{}}, []api.Type{null()}
	return []moduleFault{
		{"kind below", of(itemT, func(a *api.Assigned) { a.Kind = -1 }), itemT, api.ErrKind},
		{"kind above", of(itemT, func(a *api.Assigned) { a.Kind = api.ItemKinds }), itemT, api.ErrKind},
		{"foreign", of(itemT, func(a *api.Assigned) { a.Open = true }), itemT, api.ErrForm},
		{"name", of(itemT, func(a *api.Assigned) { a.Name = "t" }), itemT, api.ErrName},
		{"imported", of(itemT, func(a *api.Assigned) { a.Name = "B" }), itemT, api.ErrExists},
		{"type", of(itemT, func(a *api.Assigned) { a.Type = wrong }), itemT, api.ErrKind},
		{"name of a type", of(itemP, func(a *api.Assigned) { a.Name = "P_" }), itemP, api.ErrName},
		{"twice", of(itemP, func(a *api.Assigned) { a.Name = "T" }), itemP, api.ErrExists},
		{"parameters", of(itemP, func(a *api.Assigned) { a.Params = []string{"A", "B", "C", "D", "e"} }), itemP, api.ErrLarge},
		{"small parameter", of(itemP, func(a *api.Assigned) { a.Params = []string{"X", "y", "X"} }), itemP, api.ErrName},
		{"double parameter", of(itemP, func(a *api.Assigned) { a.Params = []string{"X", "X", "y"} }), itemP, api.ErrDouble},
		{"parameterized type", of(itemP, func(a *api.Assigned) { a.Type = listOf(ref("?")) }), itemP, api.ErrName},
		{"capital value", of(itemV, func(a *api.Assigned) { a.Name = "V" }), itemV, api.ErrName},
		{"type of a value", of(itemV, func(a *api.Assigned) { a.Type = kind(api.TypeList) }), itemV, api.ErrShape},
		{"value", of(itemV, func(a *api.Assigned) { a.Value = truth(2) }), itemV, api.ErrRange},
		{"small class", of(itemC, func(a *api.Assigned) { a.Name = "c" }), itemC, api.ErrName},
		{"no fields", of(itemC, func(a *api.Assigned) { a.Class = nil }), itemC, api.ErrEmpty},
		{"fields", of(itemC, func(a *api.Assigned) { a.Class = make([]api.ClassField, api.MaxClass+1) }), itemC, api.ErrLarge},
		{"capital with a type", of(itemC, func(a *api.Assigned) { a.Class[0].Name = "Id" }), itemC, api.ErrName},
		{"two types", of(itemC, func(a *api.Assigned) { a.Class[0].Fixed = []api.Type{null(), null()} }), itemC, api.ErrShape},
		{"type of a class", of(itemC, func(a *api.Assigned) { a.Class[0].Fixed = []api.Type{wrong} }), itemC, api.ErrKind},
		{"small without", of(itemC, func(a *api.Assigned) { a.Class[1].Name = "type" }), itemC, api.ErrName},
		{"unique", of(itemC, func(a *api.Assigned) { a.Class[1].Unique = true }), itemC, api.ErrForm},
		{"double field", of(itemC, func(a *api.Assigned) { a.Class[3].Name = "id" }), itemC, api.ErrDouble},
		{"capital object", of(itemO, func(a *api.Assigned) { a.Name = "O" }), itemO, api.ErrName},
		{"small class of it", of(itemO, func(a *api.Assigned) { a.Of = "c" }), itemO, api.ErrName},
		{"no settings", of(itemO, func(a *api.Assigned) { a.Settings = nil }), itemO, api.ErrEmpty},
		{"settings", of(itemO, func(a *api.Assigned) { a.Settings = make([]api.Setting, api.MaxClass+1) }), itemO, api.ErrLarge},
		{"capital with a value", of(itemO, func(a *api.Assigned) { a.Settings = setting("Id", value, nil) }), itemO, api.ErrName},
		{"capital with both", of(itemO, func(a *api.Assigned) { a.Settings = setting("Id", value, y) }), itemO, api.ErrName},
		{"small with a type", of(itemO, func(a *api.Assigned) { a.Settings = setting("id", nil, y) }), itemO, api.ErrName},
		{"no name of a setting", of(itemO, func(a *api.Assigned) { a.Settings = setting("", nil, nil) }), itemO, api.ErrName},
		{"double setting", of(itemO, func(a *api.Assigned) { a.Settings[2].Name = "id"; a.Settings[2].Value = nil }), itemO, api.ErrDouble},
		{"neither", of(itemO, func(a *api.Assigned) { a.Settings = setting("id", nil, nil) }), itemO, api.ErrShape},
		{"both", of(itemO, func(a *api.Assigned) { a.Settings = setting("id", value, y) }), itemO, api.ErrShape},
		{"two values", of(itemO, func(a *api.Assigned) { a.Settings = setting("id", []api.Value{{}, {}}, nil) }), itemO, api.ErrShape},
		{"two types of it", of(itemO, func(a *api.Assigned) { a.Settings = setting("Id", nil, []api.Type{wrong, wrong}) }), itemO, api.ErrShape},
		{"value of a setting", of(itemO, func(a *api.Assigned) { a.Settings = setting("id", []api.Value{truth(2)}, nil) }), itemO, api.ErrRange},
		{"type of a setting", of(itemO, func(a *api.Assigned) { a.Settings = setting("Id", nil, []api.Type{wrong}) }), itemO, api.ErrKind},
		{"small set", of(itemS, func(a *api.Assigned) { a.Name = "s" }), itemS, api.ErrName},
		{"class of a set", of(itemS, func(a *api.Assigned) { a.Of = "" }), itemS, api.ErrName},
		{"objects", of(itemS, func(a *api.Assigned) { a.Names = make([]string, api.MaxItems+1) }), itemS, api.ErrLarge},
		{"capital in a set", of(itemS, func(a *api.Assigned) { a.Names = []string{"o", "O", "o"} }), itemS, api.ErrName},
		{"double object", of(itemS, func(a *api.Assigned) { a.Names = []string{"o", "o", "O"} }), itemS, api.ErrDouble},
	}
}

func TestModulesRefused(t *testing.T) {
	faults := append(headFaults(), itemFaults()...)
	faults = append(faults, moduleFault{"export of nothing", func(m *api.AsnModule) { m.Exports[3] = "x" }, 0, api.ErrMissing})
	for _, f := range faults {
		m := largeModule()
		f.add(&m)
		if n, e := notation.CheckModule(m); n != f.at || e != f.want {
			t.Errorf("%s: %d, %d, want %d, %d", f.what, n, e, f.at, f.want)
		}
		if f.what == "items" || f.what == "exports" || f.what == "imports" || f.want == api.ErrMissing {
			continue
		}
		m.Items = append(m.Items, api.Assigned{Kind: -1})
		m.Exports = append(m.Exports, "missing")
		if n, e := notation.CheckModule(m); n != f.at || e != f.want {
			t.Errorf("%s, with later faults: %d, %d, want %d, %d", f.what, n, e, f.at, f.want)
		}
	}
}

// P2.3: of several errors the one that is listed first is told.
func TestOrderOfModuleErrors(t *testing.T) {
	for _, x := range []struct {
		what   string
		faults []string
		want   api.Errno
	}{
		{"name before way", []string{"way below", "no name"}, api.ErrName},
		{"way before size", []string{"exports", "way above"}, api.ErrRange},
		{"size before form", []string{"exports", "all and some"}, api.ErrLarge},
		{"form before names", []string{"name of an export", "all and some"}, api.ErrForm},
		{"exports before imports", []string{"small import", "double export"}, api.ErrDouble},
		{"import by import", []string{"same module", "same name"}, api.ErrExists},
		{"imports before items", []string{"kind below", "same name from another one"}, api.ErrExists},
		{"kind before form", []string{"foreign", "kind below"}, api.ErrKind},
		{"form before name", []string{"name", "foreign"}, api.ErrForm},
		{"name before type", []string{"type", "name"}, api.ErrName},
		{"other items before type", []string{"type", "imported"}, api.ErrExists},
		{"parameters before type", []string{"parameterized type", "double parameter"}, api.ErrDouble},
		{"type before value", []string{"value", "type of a value"}, api.ErrShape},
		{"class before settings", []string{"no settings", "small class of it"}, api.ErrName},
		{"item by item", []string{"capital value", "parameterized type"}, api.ErrName},
	} {
		m := largeModule()
		for _, f := range append(headFaults(), itemFaults()...) {
			for _, name := range x.faults {
				if f.what == name {
					f.add(&m)
				}
			}
		}
		if _, e := notation.CheckModule(m); e != x.want {
			t.Errorf("%s: %d, want %d", x.what, e, x.want)
		}
	}
}

// P2.3: what the kind of an item does not have is ErrForm.
func TestForeignPartsOfItems(t *testing.T) {
	parts := map[string]func(*api.Assigned){
		"params":   func(a *api.Assigned) { a.Params = []string{"X"} },
		"type":     func(a *api.Assigned) { a.Type = kind(api.TypeBool) },
		"tags":     func(a *api.Assigned) { a.Type = tagged(null(), context(0, 0)) },
		"value":    func(a *api.Assigned) { a.Value = number(0) },
		"class":    func(a *api.Assigned) { a.Class = make([]api.ClassField, 1) },
		"of":       func(a *api.Assigned) { a.Of = "C" },
		"settings": func(a *api.Assigned) { a.Settings = make([]api.Setting, 1) },
		"names":    func(a *api.Assigned) { a.Names = []string{"o"} },
		"open":     func(a *api.Assigned) { a.Open = true },
	}
	has := [api.ItemKinds]string{api.ItemType: "params type tags", api.ItemValue: "type tags value", api.ItemClass: "class", api.ItemObject: "of settings", api.ItemObjects: "of names open"}
	for k := range api.ItemKinds {
		for part, add := range parts {
			a := api.Assigned{Kind: k}
			add(&a)
			_, e := notation.CheckModule(api.AsnModule{Name: "M", Items: []api.Assigned{a}})
			if isForm := e == api.ErrForm; isForm == strings.Contains(has[k], part) {
				t.Errorf("kind %d with %s: error %d", k, part, e)
			}
		}
	}
}
