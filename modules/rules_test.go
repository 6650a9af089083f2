package modules_test

import (
	"fmt"
	"math/rand"
	"reflect"
	"strings"
	"testing"

	"examiner/api"
	"examiner/modules"
)

// arguments are those of all functions.
type arguments struct {
	L      []api.AsnModule
	Module int
	Name   string
	S      api.Schema
	Y      api.Type
}

// An outcome is what a function returns. Beside an error all results are zero, but for a place.
type outcome struct {
	name    string
	e       api.Errno
	place   any
	results []any
}

// called returns the outcomes of all functions for some arguments.
func called(x arguments) []outcome {
	var out []outcome
	put := func(name string, e api.Errno, place any, results ...any) {
		out = append(out, outcome{name, e, place, results})
	}
	at, e := modules.CheckProgram(x.L)
	put("CheckProgram", e, at)
	at, e = modules.MeaningOf(x.L, x.Module, x.Name)
	put("MeaningOf", e, nil, at)
	s, e := modules.SchemaOf(x.L, x.Module)
	put("SchemaOf", e, nil, s)
	v, e := modules.ValueOf(x.L, x.Module, x.Name)
	put("ValueOf", e, nil, v)
	index, e := modules.CheckRight(x.S)
	put("CheckRight", e, index)
	height, e := modules.HeightOf(x.S, x.Y)
	put("HeightOf", e, nil, height)
	least, e := modules.LeastValue(x.S, x.Y)
	put("LeastValue", e, nil, least)
	uses, e := modules.UsesOf(x.S)
	put("UsesOf", e, nil, uses)
	unfolded, e := modules.Unfolded(x.S, x.Y)
	put("Unfolded", e, nil, unfolded)
	return out
}

// fill puts numbers, strings and slices into what is given, many of which are wrong, at most so deep.
func fill(r *rand.Rand, v reflect.Value, depth int) {
	switch v.Kind() {
	case reflect.Int:
		odd := []int64{-1 << 63, -1, 0, 0, 0, 1, 1, 2, 3, 4, 5, 9, 10, 11, 12, 13, 14, 15, 17, 41, 201, api.MaxInteger, api.MaxInteger + 1, 1<<63 - 1}
		v.SetInt(odd[r.Intn(len(odd))])
	case reflect.Bool:
		v.SetBool(r.Intn(2) == 0)
	case reflect.String:
		odd := []string{"", "a", "A", "B", "M", "N", "v", "components", "IA5String", "X", "\x00\xff"}
		v.SetString(odd[r.Intn(len(odd))])
	case reflect.Slice:
		n := r.Intn(4)
		if depth == 0 || r.Intn(2) == 0 {
			n = 0
		}
		l := reflect.MakeSlice(v.Type(), n, n)
		for i := range n {
			fill(r, l.Index(i), depth-1)
		}
		v.Set(l)
	case reflect.Struct:
		for i := range v.NumField() {
			if r.Intn(3) > 0 {
				fill(r, v.Field(i), depth)
			}
		}
	}
}

// filled returns something with one part, somewhere within it, that is filled at random.
func filled[T any](r *rand.Rand, x T) T {
	x = deepCopy(x)
	v := reflect.ValueOf(&x).Elem()
	for r.Intn(12) > 0 {
		switch {
		case v.Kind() == reflect.Slice && v.Len() > 0:
			v = v.Index(r.Intn(v.Len()))
		case v.Kind() == reflect.Struct:
			v = v.Field(r.Intn(v.NumField()))
		}
	}
	fill(r, v, 2)
	return x
}

// deepCopy returns something that shares no memory with what it is made from.
func deepCopy[T any](x T) T {
	out := reflect.New(reflect.TypeOf(x)).Elem()
	copyInto(out, reflect.ValueOf(x))
	return out.Interface().(T)
}

func copyInto(to, from reflect.Value) {
	switch from.Kind() {
	case reflect.Slice:
		if from.IsNil() {
			return
		}
		l := reflect.MakeSlice(from.Type(), from.Len(), from.Len())
		for i := range from.Len() {
			copyInto(l.Index(i), from.Index(i))
		}
		to.Set(l)
	case reflect.Struct:
		for i := range from.NumField() {
			copyInto(to.Field(i), from.Field(i))
		}
	default:
		to.Set(from)
	}
}

// someArguments returns arguments that mostly fit one another.
func someArguments(m *maker) arguments {
	x := arguments{S: m.schema(), Y: m.typ(3), L: m.program(), Name: pick(m, "A", "B", "C", "v", "v", "v")}
	x.Module = m.Intn(len(x.L))
	return x
}

// R1, R2, R3, R4: every call returns, has nothing beside an error, leaves its arguments as they are, and returns the same again.
func TestAnyArguments(t *testing.T) {
	fine := map[string]int{}
	for n := range 4000 {
		m := newMaker(int64(n))
		var x arguments
		fill(m.Rand, reflect.ValueOf(&x).Elem(), 4)
		if n%4 > 0 {
			x = someArguments(m)
		}
		if n%4 > 1 {
			x = filled(m.Rand, x)
		}
		before := deepCopy(x)
		first := called(x)
		if !reflect.DeepEqual(before, x) {
			t.Fatalf("an argument was changed: %s", short(before))
		}
		if second := called(x); !reflect.DeepEqual(first, second) {
			t.Fatalf("%s, then %s", short(first), short(second))
		}
		for _, o := range first {
			wantRightOutcome(t, x, o)
			if o.e == api.OK {
				fine[o.name]++
			}
		}
	}
	for _, o := range called(arguments{}) {
		if fine[o.name] < 100 {
			t.Errorf("%s returns only %d times", o.name, fine[o.name])
		}
	}
}

// wantRightOutcome checks that there is nothing beside an error but a place, and no place without one.
func wantRightOutcome(t *testing.T, x arguments, o outcome) {
	t.Helper()
	for _, result := range o.results {
		if o.e != api.OK && !alike(result, reflect.Zero(reflect.TypeOf(result)).Interface()) {
			t.Errorf("%s: %s beside error %d", o.name, short(result), o.e)
		}
	}
	switch o.name {
	case "CheckProgram":
		at := o.place.(api.ModulePlace)
		if at != (api.ModulePlace{}) && (o.e == api.OK || at.Module >= len(x.L) || at.Item > 0 && at.Item >= len(x.L[at.Module].Items)) {
			t.Errorf("CheckProgram: place %v, error %d", at, o.e)
		}
	case "CheckRight":
		if i := o.place.(int); i < 0 || i > len(x.S) || (i == len(x.S)) != (o.e == api.OK) && i > 0 {
			t.Errorf("CheckRight: index %d of %d, error %d", i, len(x.S), o.e)
		}
	}
}

// R2: slices that contain themselves are too deep, or too large.
func TestEndlessArguments(t *testing.T) {
	of := make([]api.Type, 1)
	of[0] = api.Type{Kind: api.TypeList, Of: of}
	items := make([]api.Value, 2)
	for i := range items {
		items[i] = list(items...)
		items[i].Items = items
	}
	endlessType := []api.AsnModule{{Name: "M", Items: []api.Assigned{{Name: "A", Type: of[0]}}}}
	endlessValue := []api.AsnModule{{Name: "M", Items: []api.Assigned{{Kind: api.ItemValue, Name: "v", Value: items[0]}}}}
	for i, x := range []arguments{{L: endlessType}, {L: endlessValue}, {S: api.Schema{{Name: "T", Type: of[0]}}}, {Y: of[0]}} {
		for _, o := range called(x) {
			var want api.Errno
			switch o.name {
			case "CheckProgram", "MeaningOf", "SchemaOf", "ValueOf":
				want = api.ErrEmpty
				if i < 2 {
					want = api.ErrLarge
				}
			case "HeightOf", "LeastValue", "Unfolded":
				if i > 1 {
					want = api.ErrLarge
				}
			default:
				if i == 2 {
					want = api.ErrLarge
				}
			}
			wantResult(t, o.name+" of something endless", 0, o.e, 0, want)
		}
	}
}

// stretches returns where the slices of something lie in memory, their spare room included.
func stretches(v reflect.Value) [][2]uintptr {
	var l [][2]uintptr
	switch v.Kind() {
	case reflect.Slice:
		if v.Cap() > 0 {
			l = append(l, [2]uintptr{v.Pointer(), v.Pointer() + uintptr(v.Cap())*v.Type().Elem().Size()})
		}
		for i := range v.Len() {
			l = append(l, stretches(v.Index(i))...)
		}
	case reflect.Struct:
		for i := range v.NumField() {
			l = append(l, stretches(v.Field(i))...)
		}
	}
	return l
}

// R3: results share memory neither with arguments nor with one another, nor with themselves.
func TestMemoryOfResults(t *testing.T) {
	for n := range 400 {
		x := someArguments(newMaker(int64(n)))
		others := stretches(reflect.ValueOf(x))
		for _, o := range append(called(x), called(x)...) {
			for _, result := range o.results {
				for _, a := range stretches(reflect.ValueOf(result)) {
					for _, b := range others {
						if a[0] < b[1] && b[0] < a[1] {
							t.Fatalf("memory of %s is shared: %s", o.name, short(x))
						}
					}
					others = append(others, a)
				}
			}
		}
	}
}

// emptied returns something in which each slice without items is an empty one, not nil.
func emptied[T any](x T) T {
	x = deepCopy(x)
	emptyWithin(reflect.ValueOf(&x).Elem())
	return x
}

func emptyWithin(v reflect.Value) {
	switch v.Kind() {
	case reflect.Slice:
		if v.Len() == 0 {
			v.Set(reflect.MakeSlice(v.Type(), 0, 0))
		}
		for i := range v.Len() {
			emptyWithin(v.Index(i))
		}
	case reflect.Struct:
		for i := range v.NumField() {
			emptyWithin(v.Field(i))
		}
	}
}

// R5: a nil slice is an empty one.
func TestEmptySlices(t *testing.T) {
	for n := range 400 {
		x := someArguments(newMaker(int64(n)))
		others := called(emptied(x))
		for i, o := range called(x) {
			for j, result := range o.results {
				wantResult(t, o.name+" of nil slices", result, o.e, others[i].results[j], others[i].e)
			}
			if o.place != nil {
				wantResult(t, o.name+" of nil slices", o.place, o.e, others[i].place, others[i].e)
			}
		}
	}
}

// R2: calls end soon, also if there are as many types and defaults as may be.
func TestGreatSchemas(t *testing.T) {
	var items []string
	for i := range api.MaxTypes {
		var fields []string
		for j := range api.MaxFields - 1 {
			fields = append(fields, fmt.Sprintf("f%d INTEGER (0..%d) DEFAULT %d", j, 20+i, j))
		}
		fields = append(fields, fmt.Sprintf("n T%02d OPTIONAL", (i+1)%api.MaxTypes))
		items = append(items, fmt.Sprintf("T%02d ::= SEQUENCE {%s}", i, strings.Join(fields, ", ")))
	}
	l := []api.AsnModule{{Name: "M", Way: api.WayAutomatic}}
	for _, n := range schemaOf(t, items...) {
		l[0].Items = append(l[0].Items, api.Assigned{Kind: api.ItemType, Name: n.Name, Type: n.Type})
	}
	s, e := modules.SchemaOf(l, 0)
	wantResult(t, "SchemaOf", len(s), e, api.MaxTypes, api.OK)
	i, e := modules.CheckRight(s)
	wantResult(t, "CheckRight", i, e, api.MaxTypes, api.OK)
}
