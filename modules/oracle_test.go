package modules_test

import (
	"fmt"
	"slices"
	"strings"
	"testing"

	"examiner/api"
	"examiner/limits"
	"examiner/modules"
	"examiner/notation"
	"examiner/tags"
	"examiner/values"
)

// The functions of the package, computed slowly in other ways.

// compareValues is the order of values.
func compareValues(a, b api.Value) int {
	n, _ := values.Compare(a, b)
	return n
}

// everyType returns the types within a type, itself first.
func everyType(y api.Type) []api.Type {
	l := []api.Type{y}
	for _, f := range y.Fields {
		l = append(l, everyType(f.Type)...)
	}
	for _, of := range y.Of {
		l = append(l, everyType(of)...)
	}
	return l
}

// namesUsed returns the names in references, as they come.
func namesUsed(y api.Type) []string {
	var l []string
	for _, inner := range everyType(y) {
		if inner.Kind == api.TypeRef {
			l = append(l, inner.Name)
		}
	}
	return l
}

// A sight is what a module has of a name: an item of its own (at), or an import from the module from; neither: nothing.
type sight struct {
	at   []api.ModulePlace
	from []string
}

func sightOf(l []api.AsnModule, module int, name string) sight {
	var s sight
	for i, a := range l[module].Items {
		if a.Name == name {
			s.at = append(s.at, place(module, i))
		}
	}
	for _, imported := range l[module].Imports {
		if slices.Contains(imported.Names, name) {
			s.from = append(s.from, imported.Module)
		}
	}
	return s
}

// indexNamed returns the index of a module, or None.
func indexNamed(l []api.AsnModule, name string) int {
	return slices.IndexFunc(l, func(m api.AsnModule) bool { return m.Name == name })
}

// meant returns the item that a name means, going so many imports at most: none if it means nothing, or imports do not end.
func meant(l []api.AsnModule, module int, name string, steps int) (at []api.ModulePlace, isEndless bool) {
	s := sightOf(l, module, name)
	switch {
	case steps == 0:
		return nil, true
	case len(s.from) == 0:
		return s.at, false
	case indexNamed(l, s.from[0]) == api.None:
		return nil, false
	}
	return meant(l, indexNamed(l, s.from[0]), name, steps-1)
}

// slowProgram is CheckProgram of modules each of which is right by itself.
func slowProgram(l []api.AsnModule) (api.ModulePlace, api.Errno) {
	for i, m := range l {
		for _, imported := range m.Imports {
			from := indexNamed(l, imported.Module)
			if from == api.None {
				return place(i, 0), api.ErrMissing
			}
			for _, name := range imported.Names {
				s := sightOf(l, from, name)
				if len(s.at)+len(s.from) == 0 || !l[from].All && !slices.Contains(l[from].Exports, name) {
					return place(i, 0), api.ErrScope
				}
				if _, isEndless := meant(l, i, name, 99); isEndless {
					return place(i, 0), api.ErrLoop
				}
			}
		}
	}
	for i, m := range l {
		for j, a := range m.Items {
			for _, name := range namesUsed(a.Type) {
				at, _ := meant(l, i, name, 99)
				switch {
				case len(at) == 0:
					return place(i, j), api.ErrMissing
				case l[at[0].Module].Items[at[0].Item].Kind != api.ItemType:
					return place(i, j), api.ErrType
				}
			}
		}
	}
	return place(0, 0), api.OK
}

// slowName returns the name of an item in the schema of a module.
func slowName(l []api.AsnModule, module int, at api.ModulePlace) string {
	name := l[at.Module].Items[at.Item].Name
	if at.Module != module {
		name = l[at.Module].Name + "_" + name
	}
	return name
}

// renamed returns a type of a module with the names of the schema of another one.
func renamed(l []api.AsnModule, from, module int, y api.Type) api.Type {
	y = deepCopy(y)
	if y.Kind == api.TypeRef {
		at, _ := meant(l, from, y.Name, 99)
		y.Name = slowName(l, module, at[0])
	}
	for i, f := range y.Fields {
		y.Fields[i].Type = renamed(l, from, module, f.Type)
	}
	for i, of := range y.Of {
		y.Of[i] = renamed(l, from, module, of)
	}
	return y
}

// slowTypes returns the types of a schema as they are written, and the ways of their modules by name.
func slowTypes(l []api.AsnModule, module int) (api.Schema, map[string]int) {
	wanted := map[string]bool{}
	ways := map[string]int{}
	for range 12 { // again and again what the types that are wanted name
		for i, m := range l {
			for j, a := range m.Items {
				isRoot := i == module
				name := slowName(l, module, place(i, j))
				if isRoot && a.Kind == api.ItemType {
					wanted[name] = true
				}
				if !isRoot && !wanted[name] {
					continue
				}
				for _, used := range namesUsed(renamed(l, i, module, a.Type)) {
					wanted[used] = true
				}
			}
		}
	}
	var s api.Schema
	for i, m := range l {
		for j, a := range m.Items {
			if name := slowName(l, module, place(i, j)); wanted[name] && a.Kind == api.ItemType {
				s = append(s, api.Named{Name: name, Type: renamed(l, i, module, a.Type)})
				ways[name] = m.Way
			}
		}
	}
	slices.SortFunc(s, func(a, b api.Named) int { return strings.Compare(a.Name, b.Name) })
	return s, ways
}

// A stop is an error that ends what is computed.
type stop struct{ e api.Errno }

// must ends what is computed if there is an error.
func must[T any](x T, e api.Errno) T {
	if e != api.OK {
		panic(stop{e})
	}
	return x
}

// mapped returns a schema with each type made anew.
func mapped(s api.Schema, change func(api.Named) api.Type) api.Schema {
	var out api.Schema
	for _, n := range s {
		out = append(out, api.Named{Name: n.Name, Type: change(n)})
	}
	return out
}

// inside returns a type with the types directly within it made anew.
func inside(y api.Type, change func(api.Type) api.Type) api.Type {
	y = deepCopy(y)
	for i := range y.Fields {
		if y.Kind != api.TypeEnum {
			y.Fields[i].Type = change(y.Fields[i].Type)
		}
	}
	for i := range y.Of {
		y.Of[i] = change(y.Of[i])
	}
	return y
}

func slowComponents(s api.Schema, y api.Type) api.Type {
	y = inside(y, func(y api.Type) api.Type { return slowComponents(s, y) })
	has := false
	for _, f := range y.Fields {
		if (y.Kind == api.TypeRecord || y.Kind == api.TypeSet) && f.Name == "components" && f.Type.Kind == api.TypeRef && len(f.Type.Tags) == 0 && f.Presence == api.FieldMust {
			has = true
		}
	}
	if !has {
		return y
	}
	return must(tags.WithComponents(s, y))
}

// slowFollowed replaces references with constraints; count is how many types were met.
func slowFollowed(s api.Schema, y api.Type, depth int, count *int) api.Type {
	if y.Kind == api.TypeRef && len(y.Limits) > 0 {
		y = must(notation.Resolved(s, y))
	}
	*count++
	if *count > api.MaxTypeNodes || depth > api.MaxDepth+1 {
		panic(stop{api.ErrLarge})
	}
	return inside(y, func(y api.Type) api.Type { return slowFollowed(s, y, depth+1, count) })
}

func slowDefaults(s api.Schema, y api.Type, change func(api.Type, api.Value) api.Value) api.Type {
	y = deepCopy(y)
	for i, f := range y.Fields {
		for j, v := range f.Default {
			y.Fields[i].Default[j] = change(f.Type, v)
		}
	}
	return inside(y, func(y api.Type) api.Type { return slowDefaults(s, y, change) })
}

// slowAdapted returns a value as a type wants it.
func slowAdapted(s api.Schema, y api.Type, v api.Value) api.Value {
	y, e := notation.Resolved(s, y)
	v = deepCopy(v)
	if e != api.OK {
		return v
	}
	isRecord := y.Kind == api.TypeRecord || y.Kind == api.TypeSet
	if v.Kind == api.ValueList && len(v.Items) == 0 && isRecord {
		return record("")
	}
	if v.Kind == api.ValueList && y.Kind == api.TypeBag {
		v.Kind = api.ValueBag
	}
	for i, item := range v.Items {
		if len(v.Names) > 0 && (isRecord && v.Kind == api.ValueRecord || y.Kind == api.TypeUnion && v.Kind == api.ValueUnion) {
			for _, f := range y.Fields {
				if f.Name == v.Names[i] {
					v.Items[i] = slowAdapted(s, f.Type, item)
				}
			}
		}
		if v.Kind-api.ValueList == y.Kind-api.TypeList && len(y.Of) > 0 {
			v.Items[i] = slowAdapted(s, y.Of[0], item)
		}
		if v.Kind == api.ValueOpen && y.Kind == api.TypeOpen && v.S != "" {
			v.Items[i] = slowAdapted(s, ref(v.S), item)
		}
	}
	if v.Kind == api.ValueBag {
		slices.SortFunc(v.Items, compareValues)
	}
	return v
}

// slowSchema is SchemaOf of a right program.
func slowSchema(l []api.AsnModule, module int) (s api.Schema, e api.Errno) {
	defer func() {
		if p := recover(); p != nil {
			s, e = nil, p.(stop).e
		}
	}()
	s, ways := slowTypes(l, module)
	for _, n := range s {
		if len(n.Name) > api.MaxName {
			return nil, api.ErrName
		}
	}
	if len(s) > api.MaxTypes {
		return nil, api.ErrLarge
	}
	s = mapped(s, func(n api.Named) api.Type { return slowComponents(s, n.Type) })
	s = mapped(s, func(n api.Named) api.Type {
		count := 0
		return slowFollowed(s, n.Type, 1, &count)
	})
	s = mapped(s, func(n api.Named) api.Type {
		all := must(tags.Settled(s, ways[n.Name]))
		return all[slices.IndexFunc(all, func(o api.Named) bool { return o.Name == n.Name })].Type
	})
	must(values.CheckSchema(s))
	s = mapped(s, func(n api.Named) api.Type {
		return slowDefaults(s, n.Type, func(y api.Type, v api.Value) api.Value { return slowAdapted(s, y, v) })
	})
	s = mapped(s, func(n api.Named) api.Type {
		return slowDefaults(s, n.Type, func(y api.Type, v api.Value) api.Value { return must(values.Normal(s, y, v)) })
	})
	must(values.CheckSchema(s))
	return s, api.OK
}

// slowValue is ValueOf with the name v in a right program.
func slowValue(l []api.AsnModule, module int) (v api.Value, e api.Errno) {
	defer func() {
		if p := recover(); p != nil {
			v, e = api.Value{}, p.(stop).e
		}
	}()
	at, _ := meant(l, module, "v", 99)
	if len(at) == 0 {
		return v, api.ErrMissing
	}
	s := must(slowSchema(l, at[0].Module))
	a := l[at[0].Module].Items[at[0].Item]
	count := 0
	y := slowFollowed(s, renamed(l, at[0].Module, at[0].Module, a.Type), 1, &count)
	return must(values.Normal(s, y, slowAdapted(s, y, a.Value))), api.OK
}

// P6.1, P6.2: random programs.
func TestRandomPrograms(t *testing.T) {
	right, schemas, valuesFound, faults := 0, 0, 0, map[api.Errno]int{}
	for seed := range int64(1500) {
		m := newMaker(seed)
		l := m.program()
		isFit := !slices.ContainsFunc(l, func(m api.AsnModule) bool {
			_, e := notation.CheckModule(m)
			return e != api.OK
		})
		if !isFit {
			continue
		}
		at, e := slowProgram(l)
		wantProgram(t, fmt.Sprintf("program %d", seed), l, at, e)
		faults[e]++
		if e != api.OK {
			continue
		}
		right++
		for i := range l {
			s, e := modules.SchemaOf(l, i)
			wantS, wantE := slowSchema(l, i)
			wantResult(t, fmt.Sprintf("schema %d of program %d", i, seed), s, e, wantS, wantE)
			faults[e]++
			if e == api.OK && len(s) > 0 {
				schemas++
			}
			for _, name := range []string{"A", "B", "C", "D", "E", "v"} {
				where, e := modules.MeaningOf(l, i, name)
				want, wantE := place(0, 0), api.ErrMissing
				if at, _ := meant(l, i, name, 99); len(at) > 0 {
					want, wantE = at[0], api.OK
				}
				wantResult(t, fmt.Sprintf("meaning of %s in module %d of program %d", name, i, seed), where, e, want, wantE)
			}
			v, e := modules.ValueOf(l, i, "v")
			wantV, wantE := slowValue(l, i)
			wantResult(t, fmt.Sprintf("value in module %d of program %d", i, seed), v, e, wantV, wantE)
			if e == api.OK {
				valuesFound++
			}
		}
	}
	if right < 1000 || schemas < 1000 || valuesFound < 300 {
		t.Errorf("only %d right programs, %d schemas, %d values (%v)", right, schemas, valuesFound, faults)
	}
}

// A measure knows which named types have a value of at most so many values within one another.
type measure struct {
	s     api.Schema
	known map[string]bool
}

// canHave returns whether a type has such a value, references being followed so often at most between two values.
func (m measure) canHave(y api.Type, depth, follow int) bool {
	if depth < 1 || follow == 0 {
		return false
	}
	every := func(l ...api.Field) bool {
		return !slices.ContainsFunc(l, func(f api.Field) bool { return !m.canHave(f.Type, depth-1, 9) })
	}
	switch y.Kind {
	case api.TypeRef:
		key := fmt.Sprint(y.Name, depth, follow)
		if _, isKnown := m.known[key]; !isKnown {
			m.known[key] = m.canHave(m.s[slices.IndexFunc(m.s, func(n api.Named) bool { return n.Name == y.Name })].Type, depth, follow-1)
		}
		return m.known[key]
	case api.TypeRecord, api.TypeSet:
		var l []api.Field
		for i, f := range y.Fields {
			if i < y.Root && f.Presence == api.FieldMust {
				l = append(l, f)
			}
		}
		return every(l...)
	case api.TypeUnion:
		return slices.ContainsFunc(y.Fields, func(f api.Field) bool { return every(f) })
	case api.TypeOid, api.TypeOpen:
		return depth > 1
	case api.TypeList, api.TypeBag:
		isPermitted := false
		for n := api.MaxItems; n >= 0; n-- {
			v := api.Value{Kind: api.ValueList + y.Kind - api.TypeList, Items: make([]api.Value, n)}
			is, _ := limits.Permits(y, v)
			if n == 0 && is {
				return true
			}
			isPermitted = isPermitted || is
		}
		return isPermitted && m.canHave(y.Of[0], depth-1, 9)
	}
	return true
}

// slowHeight returns the height of a type of a small schema, or noHeight.
func slowHeight(s api.Schema, y api.Type) int {
	m := measure{s, map[string]bool{}}
	for depth := 1; depth <= 14; depth++ {
		if m.canHave(y, depth, 9) {
			return depth
		}
	}
	return noHeight
}

// P6.3: random heights.
func TestRandomHeights(t *testing.T) {
	found := map[int]int{}
	for seed := range int64(2500) {
		m := newMaker(seed)
		s := m.schema()
		y := m.typ(4)
		if _, e := modules.Unfolded(s, y); e != api.OK {
			continue
		}
		height, e := modules.HeightOf(s, y)
		want, wantE := slowHeight(s, y), api.OK
		if want == noHeight {
			wantE = api.ErrLoop
		}
		wantResult(t, fmt.Sprintf("height %d", seed), height, e, want, wantE)
		found[height]++
	}
	if found[noHeight] < 10 || found[3] < 100 || found[5] < 5 {
		t.Errorf("heights: %v", found)
	}
}

// P6.4: random uses, and circles by so many steps as there may be.
func TestRandomUses(t *testing.T) {
	for seed := range int64(1000) {
		s := newMaker(seed).schema()
		uses, e := modules.UsesOf(s)
		if e != api.OK {
			continue
		}
		var want []api.TypeUses
		for _, n := range s {
			names := slices.Compact(slices.Sorted(slices.Values(namesUsed(n.Type))))
			isCircle := false
			at := names
			for range len(s) {
				isCircle = isCircle || slices.Contains(at, n.Name)
				var next []string
				for _, o := range s {
					if slices.Contains(at, o.Name) {
						next = append(next, namesUsed(o.Type)...)
					}
				}
				at = next
			}
			want = append(want, api.TypeUses{Names: names, Circle: isCircle})
		}
		wantResult(t, fmt.Sprintf("uses %d", seed), uses, e, want, api.OK)
	}
}
