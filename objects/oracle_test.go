package objects_test

import (
	"fmt"
	"slices"
	"strings"
	"testing"

	"examiner/api"
	"examiner/lexis"
	"examiner/modules"
	"examiner/notation"
	"examiner/objects"
)

// The functions of the package, computed slowly in other ways: what is used is found, and put in, in texts.

// A stop is an error that ends what is computed, with the place of it.
type stop struct {
	at api.ModulePlace
	e  api.Errno
}

// tokensOf returns the tokens of the text of a type.
func tokensOf(y api.Type) []string {
	text, e := notation.FormatType(y)
	if e != api.OK {
		panic(fmt.Sprintf("no text of %+v: error %d", y, e))
	}
	return split(text)
}

func split(text string) []string {
	tokens, _, e := lexis.TokensOf(api.LangAsn, text)
	if e != api.OK {
		panic(text)
	}
	var l []string
	for _, k := range tokens {
		l = append(l, k.Text)
	}
	return l
}

func isCapitalName(token string) bool {
	is, _ := lexis.IsNameOf(api.LangAsn, token)
	return is && token[0] <= 'Z'
}

// closing returns the index of the token that closes what is opened at an index.
func closing(l []string, at int) int {
	depth := 0
	for i := at; ; i++ {
		switch l[i] {
		case "{", "(":
			depth++
		case "}", ")":
			depth--
		}
		if depth == 0 {
			return i
		}
	}
}

// A textUse is a use in tokens: from one to another one, with the name of a parameterized type and texts of actual parameters, or those of a class, a field, a set.
type textUse struct {
	from, to          int
	name              string
	actual            [][]string
	class, field, set string
}

// usesIn returns the uses in tokens, in the order in which they end: those within one before it.
func usesIn(l []string) []textUse {
	var found []textUse
	for i := range len(l) - 1 {
		if !isCapitalName(l[i]) {
			continue
		}
		switch l[i+1] {
		case "{":
			if i > 1 && l[i-1] == "{" && l[i-2] == "(" { // the object set of a class
				continue
			}
			u := textUse{from: i, to: closing(l, i+1), name: l[i]}
			u.actual = separated(l[i+2 : u.to])
			found = append(found, u)
		case ".":
			found = append(found, textUse{from: i, to: closing(l, i+4), class: l[i], field: l[i+3], set: l[i+6]})
		}
	}
	slices.SortStableFunc(found, func(a, b textUse) int { return a.to - b.to })
	return found
}

// separated returns what stands between commas outside of brackets.
func separated(l []string) [][]string {
	out := [][]string{nil}
	depth := 0
	for _, token := range l {
		switch token {
		case "{", "(":
			depth++
		case "}", ")":
			depth--
		}
		if token == "," && depth == 0 {
			out = append(out, nil)
			continue
		}
		out[len(out)-1] = append(out[len(out)-1], token)
	}
	return out
}

// found returns the items of a module with a kind and a name: one or none.
func found(m api.AsnModule, kind int, name string) []api.Assigned {
	var l []api.Assigned
	for _, a := range m.Items {
		if a.Kind == kind && a.Name == name {
			l = append(l, a)
		}
	}
	return l
}

// classField returns the field of a class with a name: one or none.
func classField(m api.AsnModule, class, name string) []api.ClassField {
	var l []api.ClassField
	for _, a := range found(m, api.ItemClass, class) {
		for _, f := range a.Class {
			if f.Name == name {
				l = append(l, f)
			}
		}
	}
	return l
}

// typesWithin returns the types that an item has.
func typesWithin(a api.Assigned) []api.Type {
	l := []api.Type{a.Type}
	for _, f := range a.Class {
		l = append(l, f.Fixed...)
	}
	for _, g := range a.Settings {
		l = append(l, g.Type...)
	}
	return l
}

// slowObjects is CheckObjects of modules each of which is right by itself, with names of their own.
func slowObjects(l []api.AsnModule) (at api.ModulePlace, e api.Errno) {
	for i, m := range l {
		for _, imported := range m.Imports {
			for _, n := range l {
				for _, a := range n.Items {
					isOwn := len(a.Params) > 0 || a.Kind == api.ItemClass || a.Kind == api.ItemObject || a.Kind == api.ItemObjects
					if n.Name == imported.Module && isOwn && slices.Contains(imported.Names, a.Name) {
						return place(i, 0), api.ErrRefused
					}
				}
			}
		}
	}
	for i, m := range l {
		for j, a := range m.Items {
			for _, check := range []func(api.AsnModule, api.Assigned) api.Errno{slowUses, slowClass, slowObject, slowSet} {
				if e := check(m, a); e != api.OK {
					return place(i, j), e
				}
			}
		}
	}
	return place(0, 0), api.OK
}

func slowUses(m api.AsnModule, a api.Assigned) api.Errno {
	for _, y := range typesWithin(a) {
		for _, u := range usesIn(tokensOf(y)) {
			if u.name != "" {
				named := found(m, api.ItemType, u.name)
				if len(named) == 0 || len(named[0].Params) == 0 || slices.Contains(a.Params, u.name) {
					return api.ErrMissing
				}
				if len(named[0].Params) != len(u.actual) {
					return api.ErrArity
				}
				continue
			}
			set := found(m, api.ItemObjects, u.set)
			if len(classField(m, u.class, u.field)) == 0 || len(set) == 0 {
				return api.ErrMissing
			}
			if set[0].Of != u.class {
				return api.ErrType
			}
		}
	}
	return api.OK
}

func slowClass(m api.AsnModule, a api.Assigned) api.Errno {
	for _, f := range a.Class {
		for _, y := range f.Fixed {
			if slices.Contains(tokensOf(y), "&") {
				return api.ErrRefused
			}
		}
	}
	return api.OK
}

func slowObject(m api.AsnModule, a api.Assigned) api.Errno {
	if a.Kind != api.ItemObject {
		return api.OK
	}
	class := found(m, api.ItemClass, a.Of)
	if len(class) == 0 {
		return api.ErrMissing
	}
	isSet := map[string]bool{}
	for _, g := range a.Settings {
		isSet[g.Name] = true
		if len(classField(m, a.Of, g.Name)) == 0 {
			return api.ErrMissing
		}
	}
	for _, f := range class[0].Class {
		if !isSet[f.Name] && !f.Optional {
			return api.ErrUnbound
		}
	}
	return api.OK
}

func slowSet(m api.AsnModule, a api.Assigned) api.Errno {
	if a.Kind != api.ItemObjects {
		return api.OK
	}
	class := found(m, api.ItemClass, a.Of)
	if len(class) == 0 {
		return api.ErrMissing
	}
	for _, name := range a.Names {
		o := found(m, api.ItemObject, name)
		if len(o) == 0 {
			return api.ErrMissing
		}
		if o[0].Of != a.Of {
			return api.ErrType
		}
	}
	for _, f := range class[0].Class {
		values := map[string]bool{}
		for _, v := range slowValues(m, a, f.Name) {
			text := fmt.Sprintf("%+v", v)
			if f.Unique && values[text] {
				return api.ErrDouble
			}
			values[text] = true
		}
	}
	return api.OK
}

// slowValues returns the values that objects of a set have in a field.
func slowValues(m api.AsnModule, set api.Assigned, field string) []api.Value {
	var l []api.Value
	for _, name := range set.Names {
		for _, g := range found(m, api.ItemObject, name)[0].Settings {
			if g.Name == field {
				l = append(l, g.Value...)
			}
		}
	}
	return l
}

// A rewriter expands one module in texts.
type rewriter struct {
	m         api.AsnModule
	names     []string // of types and values, those that are added, too
	texts     [][]string
	instances []string // the texts of their uses, and behind each its name
}

func (w *rewriter) fail(e api.Errno) { panic(stop{e: e}) }

// slowExpanded is Expanded of modules that CheckObjects accepts, in which references to ANY are open types.
func slowExpanded(l []api.AsnModule) (out []api.AsnModule, e api.Errno) {
	defer func() {
		if p := recover(); p != nil {
			out, e = nil, p.(stop).e
		}
	}()
	for _, m := range l {
		w := rewriter{m: m}
		out = append(out, w.module())
	}
	out = written(out)
	if _, e := modules.CheckProgram(out); e != api.OK {
		return nil, e
	}
	return out, api.OK
}

// module returns the module expanded: types with their texts, behind which those stand that are added.
func (w *rewriter) module() api.AsnModule {
	out := w.m
	out.Items, out.Exports = nil, nil
	queue := slices.Clone(w.m.Items)
	for i := 0; i < len(queue); i++ {
		a := queue[i]
		w.names, w.texts = nil, nil
		switch {
		case a.Kind == api.ItemObject:
			for _, g := range a.Settings {
				for _, y := range g.Type {
					w.put(queue, g.Name+"-"+a.Name, tokensOf(y))
				}
			}
		case a.Kind == api.ItemValue || a.Kind == api.ItemType && len(a.Params) == 0:
			w.m.Items = queue
			a.Type = parsed(w.rewritten(tokensOf(a.Type)))
			out.Items = append(out.Items, a)
		}
		for j, name := range w.names {
			queue = append(queue, api.Assigned{Kind: api.ItemType, Name: name, Type: parsed(w.texts[j])})
		}
	}
	for _, name := range w.m.Exports {
		isKept := slices.ContainsFunc(out.Items, func(a api.Assigned) bool { return a.Name == name })
		for _, p := range w.m.Imports {
			isKept = isKept || slices.Contains(p.Names, name)
		}
		if isKept {
			out.Exports = append(out.Exports, name)
		}
	}
	if len(out.Items) > api.MaxAssigned {
		w.fail(api.ErrLarge)
	}
	return out
}

// parsed returns the type with tokens, as the queue holds it; what is too large is found there.
func parsed(l []string) api.Type {
	y, _, e := notation.ParseType(strings.Join(l, " "))
	if e == api.ErrLarge {
		panic(stop{e: api.ErrLarge})
	}
	if e != api.OK {
		panic(strings.Join(l, " "))
	}
	return y
}

// put adds a type.
func (w *rewriter) put(items []api.Assigned, name string, text []string) {
	if len(name) > api.MaxName {
		w.fail(api.ErrName)
	}
	isThere := slices.Contains(w.names, name) || slices.ContainsFunc(items, func(a api.Assigned) bool { return a.Name == name })
	for _, p := range w.m.Imports {
		isThere = isThere || slices.Contains(p.Names, name)
	}
	if isThere {
		w.fail(api.ErrExists)
	}
	w.names = append(w.names, name)
	w.texts = append(w.texts, text)
}

// rewritten returns tokens in which the first use is replaced, again and again.
func (w *rewriter) rewritten(l []string) []string {
	for {
		uses := usesIn(l)
		if len(uses) == 0 {
			return l
		}
		u := uses[0]
		by := []string{"ANY"}
		switch {
		case u.name != "":
			by = []string{w.instance(u)}
		case len(classField(w.m, u.class, u.field)[0].Fixed) > 0:
			by = w.fixed(u)
			if tagsBefore(l[:u.from])+tagsAt(by) > 3 {
				w.fail(api.ErrLarge)
			}
		}
		l = slices.Concat(l[:u.from], by, l[u.to+1:])
	}
}

// tagsBefore returns how many tags end directly before the end of tokens, tagsAt with how many they begin.
func tagsBefore(l []string) int {
	n := 0
	for len(l) > 0 && (l[len(l)-1] == "]" || l[len(l)-1] == "IMPLICIT" || l[len(l)-1] == "EXPLICIT") {
		at := len(l) - 1
		for l[at] != "[" {
			at--
		}
		l = l[:at]
		n++
	}
	return n
}

func tagsAt(l []string) int {
	n := 0
	for len(l) > 0 && l[0] == "[" {
		l = l[slices.Index(l, "]")+1:]
		if l[0] == "IMPLICIT" || l[0] == "EXPLICIT" {
			l = l[1:]
		}
		n++
	}
	return n
}

// instance returns the name of the instance of a use.
func (w *rewriter) instance(u textUse) string {
	key := u.name
	for _, text := range u.actual {
		if _, _, e := notation.ParseType(strings.Join(text, " ")); e != api.OK {
			w.fail(e)
		}
		if slices.Contains(text, "ANY") {
			w.fail(api.ErrRefused)
		}
		key += " {} " + strings.Join(text, " ")
	}
	for i := 0; i < len(w.instances); i += 2 {
		if w.instances[i] == key {
			return w.instances[i+1]
		}
	}
	if len(w.instances)/2 == api.MaxTypes {
		w.fail(api.ErrLoop)
	}
	number := 1
	for i := 0; i < len(w.instances); i += 2 {
		if strings.HasPrefix(w.instances[i], u.name+" ") {
			number++
		}
	}
	named := found(w.m, api.ItemType, u.name)[0]
	text := w.putIn(tokensOf(named.Type), named.Params, u.actual)
	if _, _, e := notation.ParseType(strings.Join(text, " ")); e != api.OK {
		w.fail(api.ErrLarge)
	}
	name := fmt.Sprint(u.name, "-", number)
	w.instances = append(w.instances, key, name)
	w.put(w.m.Items, name, text)
	return name
}

// putIn returns tokens in which actual types stand in the place of parameters.
func (w *rewriter) putIn(l []string, params []string, actual [][]string) []string {
	var out []string
	isRefused := false
	for i, token := range l {
		at := slices.Index(params, token)
		next := append(slices.Clone(l[i+1:]), "")[0]
		isSet := i > 1 && l[i-1] == "{" && l[i-2] == "("
		if at < 0 || next == "{" || next == "." || next == ":" || isSet {
			out = append(out, token)
			continue
		}
		isRefused = isRefused || next == "("
		out = append(out, actual[at]...)
	}
	if isRefused {
		w.fail(api.ErrRefused)
	}
	return out
}

// fixed returns what stands in the place of a use of a class field that has a type.
func (w *rewriter) fixed(u textUse) []string {
	y := classField(w.m, u.class, u.field)[0].Fixed[0]
	text := w.rewritten(tokensOf(y))
	if y.Kind != api.TypeInt {
		return text
	}
	set := found(w.m, api.ItemObjects, u.set)[0]
	var numbers []string
	for _, v := range slowValues(w.m, set, u.field) {
		if v.Kind != api.ValueInt {
			w.fail(api.ErrType)
		}
		numbers = append(numbers, fmt.Sprint(v.N))
	}
	text = text[:slices.Index(text, "INTEGER")+1]
	if len(numbers) == 0 {
		return text
	}
	limits := strings.Join(numbers, " | ")
	if set.Open {
		limits += ", ..."
	}
	return append(slices.Clone(text), split("("+limits+")")...)
}

// P7.1, P7.2: random modules.
func TestRandomModules(t *testing.T) {
	faults, expandedFaults := map[api.Errno]int{}, map[api.Errno]int{}
	for seed := range int64(3000) {
		texts := newMaker(seed).program()
		l, isRead := readModules(texts)
		if !isRead {
			continue
		}
		what := fmt.Sprintf("program %d: %s", seed, texts)
		at, e := slowObjects(l)
		wantObjects(t, what, written(l), at, e)
		faults[e]++
		if e != api.OK {
			wantExpanded(t, what, written(l), nil, e)
			continue
		}
		want, e := slowExpanded(l)
		wantExpanded(t, what, written(l), want, e)
		expandedFaults[e]++
	}
	for _, e := range []api.Errno{api.ErrMissing, api.ErrArity, api.ErrType, api.ErrRefused, api.ErrUnbound, api.ErrDouble} {
		if faults[e] < 5 {
			t.Errorf("error %d of modules comes only %d times", e, faults[e])
		}
	}
	for _, e := range []api.Errno{api.ErrMissing, api.ErrLoop, api.ErrRefused, api.ErrLarge, api.ErrType} {
		if expandedFaults[e] < 5 {
			t.Errorf("error %d of expanding comes only %d times", e, expandedFaults[e])
		}
	}
	if expandedFaults[api.OK] < 500 {
		t.Errorf("only %d programs", expandedFaults[api.OK])
	}
	t.Log(faults, expandedFaults)
}

// slowTables returns the tables of a module, found by going all ways to records.
func slowTables(m api.AsnModule) []api.Table {
	var l []api.Table
	for _, a := range m.Items {
		if a.Kind != api.ItemType || len(a.Params) > 0 {
			continue
		}
		for _, way := range waysOf(a.Type) {
			if len(way) == 0 {
				continue
			}
			y, record := typeAt(a.Type, way), typeAt(a.Type, way[:len(way)-1])
			if y.Kind != api.TypeOpen || len(y.Fields) == 0 || record.Kind != api.TypeRecord && record.Kind != api.TypeSet {
				continue
			}
			if len(classField(m, y.Fields[0].Name, y.Name)[0].Fixed) > 0 {
				continue
			}
			x := api.Table{Type: a.Name, Way: way[:len(way)-1], Open: record.Fields[way[len(way)-1]].Name, Set: y.Fields[1].Name, IdField: -1}
			x.Field = slowNumber(m, y)
			if len(y.Fields) == 3 {
				x.Id = y.Fields[2].Name
			}
			for _, f := range record.Fields {
				if f.Name == x.Id && f.Type.Kind == api.TypeOpen && len(f.Type.Fields) > 0 && f.Type.Fields[0].Name == y.Fields[0].Name {
					x.IdField = slowNumber(m, f.Type)
				}
			}
			l = append(l, x)
		}
	}
	return l
}

// slowNumber returns the number of the field of a class that a type is.
func slowNumber(m api.AsnModule, y api.Type) int {
	return slices.IndexFunc(found(m, api.ItemClass, y.Fields[0].Name)[0].Class, func(f api.ClassField) bool { return f.Name == y.Name })
}

// waysOf returns the ways to all types within a type, in order.
func waysOf(y api.Type) [][]int {
	l := [][]int{nil}
	for i, f := range y.Fields {
		for _, way := range waysOf(f.Type) {
			l = append(l, append([]int{i}, way...))
		}
	}
	for _, of := range y.Of {
		for _, way := range waysOf(of) {
			l = append(l, append([]int{0}, way...))
		}
	}
	return l
}

// typeAt returns the type at a way.
func typeAt(y api.Type, way []int) api.Type {
	for _, i := range way {
		if len(y.Of) > 0 {
			y = y.Of[0]
		} else {
			y = y.Fields[i].Type
		}
	}
	return y
}

// slowRows returns the rows of a set.
func slowRows(m api.AsnModule, set api.Assigned) []api.ObjectRow {
	var rows []api.ObjectRow
	for _, name := range set.Names {
		row := api.ObjectRow{Object: name}
		for _, f := range found(m, api.ItemClass, set.Of)[0].Class {
			values, typ := []api.Value{}, ""
			for _, g := range found(m, api.ItemObject, name)[0].Settings {
				if g.Name == f.Name {
					values = g.Value
					typ = strings.Repeat(f.Name+"-"+name, len(g.Type))
				}
			}
			row.Values = append(row.Values, values)
			row.Types = append(row.Types, typ)
		}
		rows = append(rows, row)
	}
	return rows
}

// A spot is a value within another one: its place, itself, and the way to its type, if it has one.
type spot struct {
	place []int
	v     api.Value
	way   []int
}

// spotsOf returns all values within a value of a type, places ascending.
func spotsOf(y api.Type, v api.Value) []spot {
	l := []spot{{v: v}}
	for i, item := range v.Items {
		step, is := 0, false
		switch {
		case (y.Kind == api.TypeList || y.Kind == api.TypeBag) && (v.Kind == api.ValueList || v.Kind == api.ValueBag):
			is = true
		case (y.Kind == api.TypeRecord || y.Kind == api.TypeSet) && v.Kind == api.ValueRecord, y.Kind == api.TypeUnion && v.Kind == api.ValueUnion:
			step = slices.IndexFunc(y.Fields, func(f api.Field) bool { return f.Name == v.Names[i] })
			is = step >= 0
		}
		if !is {
			continue
		}
		for _, s := range spotsOf(typeAt(y, []int{step}), item) {
			l = append(l, spot{append([]int{i}, s.place...), s.v, append([]int{step}, s.way...)})
		}
	}
	return l
}

// slowAgrees is Agrees of a type of a module and a value that are right.
func slowAgrees(m api.AsnModule, name string, v api.Value) ([]int, api.Errno) {
	for _, x := range slowTables(m) {
		if x.Type != name || x.IdField < 0 {
			continue
		}
		rows := slowRows(m, found(m, api.ItemObjects, x.Set)[0])
		for _, s := range spotsOf(found(m, api.ItemType, name)[0].Type, v) {
			if s.v.Kind != api.ValueRecord || !slices.Equal(s.way, x.Way) {
				continue
			}
			parts := map[string]api.Value{}
			for i, part := range s.v.Names {
				parts[part] = s.v.Items[i]
			}
			open, isThere := parts[x.Open]
			if !isThere || open.Kind != api.ValueOpen || open.S == "" {
				continue
			}
			agrees := false
			for _, row := range rows {
				id, isThere := parts[x.Id]
				agrees = agrees || isThere && row.Types[x.Field] == open.S && len(row.Values[x.IdField]) > 0 && alike(row.Values[x.IdField][0], id)
			}
			if !agrees {
				return append(slices.Clone(s.place), slices.Index(s.v.Names, x.Open)), api.ErrClash
			}
		}
	}
	return nil, api.OK
}

// P7.3, P7.4: random tables, rows and values.
func TestRandomTables(t *testing.T) {
	tables, agreeing, clashing, deep := 0, 0, 0, 0
	for seed := range int64(3000) {
		m := newMaker(seed)
		l, isRead := readModules(m.program())
		if !isRead {
			continue
		}
		l = written(l)
		if _, e := objects.CheckObjects(l); e != api.OK {
			continue
		}
		for i, module := range l {
			what := fmt.Sprintf("module %d of program %d", i, seed)
			want := slowTables(module)
			got, e := objects.TablesOf(l, i)
			wantResult(t, what, got, e, want, api.OK)
			tables += len(want)
			for _, a := range module.Items {
				if a.Kind == api.ItemObjects {
					rows, e := objects.RowsOf(l, i, a.Name)
					wantResult(t, what, rows, e, slowRows(module, a), api.OK)
				}
				if a.Kind != api.ItemType || len(a.Params) > 0 {
					continue
				}
				for range 5 {
					v := m.value(a.Type, 6)
					wantPlace, wantE := slowAgrees(module, a.Name, v)
					place, e := objects.Agrees(l, i, a.Name, v)
					wantResult(t, fmt.Sprintf("%s: %s, %+v", what, a.Name, v), place, e, wantPlace, wantE)
					if e == api.ErrClash {
						clashing++
					} else {
						agreeing++
					}
					if len(place) > 2 {
						deep++
					}
				}
			}
		}
	}
	if tables < 500 || agreeing < 500 || clashing < 500 || deep < 50 {
		t.Errorf("only %d tables, %d values that agree, %d that do not, %d deep", tables, agreeing, clashing, deep)
	}
	t.Log(tables, agreeing, clashing, deep)
}
