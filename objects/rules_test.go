package objects_test

import (
	"fmt"
	"math/rand"
	"reflect"
	"testing"

	"examiner/api"
	"examiner/objects"
)

// arguments are those of all functions.
type arguments struct {
	L             []api.AsnModule
	Module, Table int
	Name, Set     string
	V             api.Value
	Rows          []api.ObjectRow
	Field         int
	Y             api.Type
	Params        []string
	Actual        []api.Type
}

// An outcome is what a function returns. Beside an error all results are zero, but for a place.
type outcome struct {
	name    string
	e       api.Errno
	place   any
	results []any
}

// called returns the outcomes of all functions for some arguments.
func called(x arguments) []outcome {
	var out []outcome
	put := func(name string, e api.Errno, place any, results ...any) {
		out = append(out, outcome{name, e, place, results})
	}
	at, e := objects.CheckObjects(x.L)
	put("CheckObjects", e, at)
	expanded, e := objects.Expanded(x.L)
	put("Expanded", e, nil, expanded)
	rows, e := objects.RowsOf(x.L, x.Module, x.Set)
	put("RowsOf", e, nil, rows)
	tables, e := objects.TablesOf(x.L, x.Module)
	put("TablesOf", e, nil, tables)
	row, e := objects.RowFor(x.Rows, x.Field, x.V)
	put("RowFor", e, nil, row)
	name, e := objects.TypeFor(x.L, x.Module, x.Table, x.V)
	put("TypeFor", e, nil, name)
	place, e := objects.Agrees(x.L, x.Module, x.Name, x.V)
	put("Agrees", e, place)
	y, e := objects.Substituted(x.Y, x.Params, x.Actual)
	put("Substituted", e, nil, y)
	return out
}

// fill puts numbers, strings and slices into what is given, many of which are wrong, at most so deep.
func fill(r *rand.Rand, v reflect.Value, depth int) {
	switch v.Kind() {
	case reflect.Int:
		odd := []int64{-1 << 63, -1, 0, 0, 0, 1, 1, 2, 3, 4, 5, 9, 10, 11, 12, 13, 14, 15, 17, 41, 201, api.MaxInteger, api.MaxInteger + 1, 1<<63 - 1}
		v.SetInt(odd[r.Intn(len(odd))])
	case reflect.Bool:
		v.SetBool(r.Intn(2) == 0)
	case reflect.String:
		odd := []string{"", "a", "A", "B", "C", "P", "X", "x", "S", "id", "Type", "Type-x", "M", "N", "v", "IA5String", "\x00\xff"}
		v.SetString(odd[r.Intn(len(odd))])
	case reflect.Slice:
		n := r.Intn(4)
		if depth == 0 || r.Intn(2) == 0 {
			n = 0
		}
		l := reflect.MakeSlice(v.Type(), n, n)
		for i := range n {
			fill(r, l.Index(i), depth-1)
		}
		v.Set(l)
	case reflect.Struct:
		for i := range v.NumField() {
			if r.Intn(3) > 0 {
				fill(r, v.Field(i), depth)
			}
		}
	}
}

// filled returns something with one part, somewhere within it, that is filled at random.
func filled[T any](r *rand.Rand, x T) T {
	x = deepCopy(x)
	v := reflect.ValueOf(&x).Elem()
	for r.Intn(12) > 0 {
		switch {
		case v.Kind() == reflect.Slice && v.Len() > 0:
			v = v.Index(r.Intn(v.Len()))
		case v.Kind() == reflect.Struct:
			v = v.Field(r.Intn(v.NumField()))
		}
	}
	fill(r, v, 2)
	return x
}

// deepCopy returns something that shares no memory with what it is made from.
func deepCopy[T any](x T) T {
	out := reflect.New(reflect.TypeOf(x)).Elem()
	copyInto(out, reflect.ValueOf(x))
	return out.Interface().(T)
}

func copyInto(to, from reflect.Value) {
	switch from.Kind() {
	case reflect.Slice:
		if from.IsNil() {
			return
		}
		l := reflect.MakeSlice(from.Type(), from.Len(), from.Len())
		for i := range from.Len() {
			copyInto(l.Index(i), from.Index(i))
		}
		to.Set(l)
	case reflect.Struct:
		for i := range from.NumField() {
			copyInto(to.Field(i), from.Field(i))
		}
	default:
		to.Set(from)
	}
}

// someArguments returns arguments that mostly fit one another.
func someArguments(m *maker) arguments {
	x := arguments{Name: pick(m, "A", "T", "T", "D", "B"), Set: pick(m, "S", "R", "U", "E"), Table: m.Intn(3), Field: m.Intn(2)}
	for isRead := false; !isRead; {
		x.L, isRead = readModules(m.program())
	}
	x.L = written(x.L)
	x.Module = m.Intn(len(x.L))
	x.V = number(m.Intn(3))
	for _, a := range found(x.L[x.Module], api.ItemType, x.Name) {
		if m.one(2) {
			x.V = m.value(a.Type, 6)
		}
	}
	if rows, e := objects.RowsOf(x.L, x.Module, x.Set); e == api.OK && len(rows) > 0 {
		x.Rows = rows
		if values := pick(m, rows...).Values; m.one(2) && len(values[0]) > 0 {
			x.V = values[0][0]
		}
	}
	for _, a := range x.L[x.Module].Items {
		if len(a.Params) > 0 {
			x.Y, x.Params = a.Type, a.Params
		}
	}
	for range x.Params {
		x.Actual = append(x.Actual, x.L[x.Module].Items[m.Intn(len(x.L[x.Module].Items))].Type)
	}
	return x
}

// R1, R2, R3, R4: every call returns, has nothing beside an error, leaves its arguments as they are, and returns the same again.
func TestAnyArguments(t *testing.T) {
	fine := map[string]int{}
	for n := range 4000 {
		m := newMaker(int64(n))
		var x arguments
		fill(m.Rand, reflect.ValueOf(&x).Elem(), 4)
		if n%4 > 0 {
			x = someArguments(m)
		}
		if n%4 > 1 {
			x = filled(m.Rand, x)
		}
		before := deepCopy(x)
		first := called(x)
		if !reflect.DeepEqual(before, x) {
			t.Fatalf("an argument was changed: %s", short(before))
		}
		if second := called(x); !reflect.DeepEqual(first, second) {
			t.Fatalf("%s, then %s", short(first), short(second))
		}
		for _, o := range first {
			wantRightOutcome(t, x, o)
			if o.e == api.OK {
				fine[o.name]++
			}
		}
	}
	for _, o := range called(arguments{}) {
		if fine[o.name] < 100 {
			t.Errorf("%s returns only %d times", o.name, fine[o.name])
		}
	}
}

// wantRightOutcome checks that there is nothing beside an error but a place, and no place without one.
func wantRightOutcome(t *testing.T, x arguments, o outcome) {
	t.Helper()
	for _, result := range o.results {
		if o.e != api.OK && !alike(result, reflect.Zero(reflect.TypeOf(result)).Interface()) {
			t.Errorf("%s: %s beside error %d", o.name, short(result), o.e)
		}
	}
	switch o.name {
	case "CheckObjects":
		at := o.place.(api.ModulePlace)
		if at != (api.ModulePlace{}) && (o.e == api.OK || at.Module >= len(x.L) || at.Item > 0 && at.Item >= len(x.L[at.Module].Items)) {
			t.Errorf("CheckObjects: place %v, error %d", at, o.e)
		}
	case "Agrees":
		if place := o.place.([]int); (len(place) > 0) != (o.e == api.ErrClash) {
			t.Errorf("Agrees: place %v, error %d", place, o.e)
		}
	}
}

// R2: slices that contain themselves are too deep, or too large.
func TestEndlessArguments(t *testing.T) {
	of := make([]api.Type, 1)
	of[0] = api.Type{Kind: api.TypeList, Of: of}
	items := make([]api.Value, 2)
	for i := range items {
		items[i] = list(items...)
		items[i].Items = items
	}
	right := programOf(t, "M EXPLICIT A ::= SEQUENCE {i C.&id ({S}), v C.&Type ({S}{@i})}"+someObjects)
	for _, a := range []api.Assigned{
		{Name: "A", Type: of[0]},
		{Kind: api.ItemValue, Name: "v", Value: items[0]},
		{Kind: api.ItemClass, Name: "C", Class: []api.ClassField{{Name: "id", Fixed: of}}},
		{Kind: api.ItemObject, Name: "o", Of: "C", Settings: []api.Setting{{Name: "T", Type: of}}},
		{Kind: api.ItemObject, Name: "o", Of: "C", Settings: []api.Setting{{Name: "v", Value: items[:1]}}},
	} {
		for _, o := range called(arguments{L: []api.AsnModule{{Name: "M", Items: []api.Assigned{a}}}}) {
			want := api.ErrLarge
			if o.name == "RowFor" {
				want = api.ErrNone
			} else if o.name == "Substituted" {
				want = api.OK
			}
			wantResult(t, fmt.Sprint(o.name, " of something endless in an item ", a.Kind), 0, o.e, 0, want)
		}
	}
	for _, o := range called(arguments{L: right, Name: "A", Set: "S", V: items[0], Y: of[0]}) {
		want := api.OK
		switch o.name {
		case "RowFor", "TypeFor", "Agrees", "Substituted":
			want = api.ErrLarge
		}
		wantResult(t, o.name+" of something endless", 0, o.e, 0, want)
	}
	_, e := objects.Substituted(ref("X"), []string{"X"}, of)
	wantResult(t, "an endless actual type", 0, e, 0, api.ErrLarge)
	_, e = objects.RowFor([]api.ObjectRow{{Values: [][]api.Value{items[:1]}}}, 0, number(1))
	wantResult(t, "an endless value in a row", 0, e, 0, api.ErrLarge)
}

// stretches returns where the slices of something lie in memory, their spare room included.
func stretches(v reflect.Value) [][2]uintptr {
	var l [][2]uintptr
	switch v.Kind() {
	case reflect.Slice:
		if v.Cap() > 0 {
			l = append(l, [2]uintptr{v.Pointer(), v.Pointer() + uintptr(v.Cap())*v.Type().Elem().Size()})
		}
		for i := range v.Len() {
			l = append(l, stretches(v.Index(i))...)
		}
	case reflect.Struct:
		for i := range v.NumField() {
			l = append(l, stretches(v.Field(i))...)
		}
	}
	return l
}

// R3: results share memory neither with arguments nor with one another, nor with themselves.
func TestMemoryOfResults(t *testing.T) {
	for n := range 500 {
		x := someArguments(newMaker(int64(n)))
		others := stretches(reflect.ValueOf(x))
		for _, o := range append(called(x), called(x)...) {
			for _, result := range append(o.results, o.place) {
				if result == nil {
					continue
				}
				for _, a := range stretches(reflect.ValueOf(result)) {
					for _, b := range others {
						if a[0] < b[1] && b[0] < a[1] {
							t.Fatalf("memory of %s is shared: %s", o.name, short(x.L))
						}
					}
					others = append(others, a)
				}
			}
		}
	}
}

// emptied returns something in which each slice without items is an empty one, not nil.
func emptied[T any](x T) T {
	x = deepCopy(x)
	emptyWithin(reflect.ValueOf(&x).Elem())
	return x
}

func emptyWithin(v reflect.Value) {
	switch v.Kind() {
	case reflect.Slice:
		if v.Len() == 0 {
			v.Set(reflect.MakeSlice(v.Type(), 0, 0))
		}
		for i := range v.Len() {
			emptyWithin(v.Index(i))
		}
	case reflect.Struct:
		for i := range v.NumField() {
			emptyWithin(v.Field(i))
		}
	}
}

// R5: a nil slice is an empty one.
func TestEmptySlices(t *testing.T) {
	for n := range 500 {
		x := someArguments(newMaker(int64(n)))
		others := called(emptied(x))
		for i, o := range called(x) {
			for j, result := range o.results {
				wantResult(t, o.name+" of nil slices", result, o.e, others[i].results[j], others[i].e)
			}
			if o.place != nil {
				wantResult(t, o.name+" of nil slices", o.place, o.e, others[i].place, others[i].e)
			}
		}
	}
}

// R2: calls end soon, also if there are as many modules, objects and instances as may be.
func TestGreatModules(t *testing.T) {
	var l []api.AsnModule
	for i := range api.MaxModules {
		text := "M" + fmt.Sprint(i) + " EXPLICIT C ::= CLASS {&id IA5String UNIQUE, &nr OBJECT IDENTIFIER UNIQUE, &big SEQUENCE {" + many(14, "f# INTEGER (0..#)", ", ") + "}} S C ::= {" + many(10, "x#", " | ") + "} " +
			many(10, "x# C ::= {&id \"#\", &nr {1 2 #}, &big {}}", " ") + " A ::= SEQUENCE {" + many(3, "a# C.&big ({S})", ", ") + "} P{X} ::= SEQUENCE {" + many(3, "a# P{[#] NULL} OPTIONAL", ", ") + ", b X, c SET OF C.&big ({S})} B ::= P{REAL}"
		l = append(l, moduleOf(t, text))
	}
	wantObjects(t, "most modules", l, place(0, 0), api.OK)
	expanded, e := objects.Expanded(l)
	wantResult(t, "most modules", len(expanded), e, len(l), api.OK)
	l[5].Items[2].Settings[1].Value[0] = l[5].Items[3].Settings[1].Value[0]
	wantObjects(t, "twice the same value", l, place(5, 1), api.ErrDouble)
}
