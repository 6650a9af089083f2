package values_test

import (
	"fmt"
	"math/rand"
	"reflect"
	"testing"

	"examiner/api"
	"examiner/values"
)

// arguments are those of all functions.
type arguments struct {
	S     api.Schema
	Y     api.Type
	V, W  api.Value
	Place []int
	Text  string
}

// An outcome is what a function returns. Beside an error all results are zero, but for a place.
type outcome struct {
	name    string
	e       api.Errno
	place   any
	results []any
}

// called returns the outcomes of all functions for some arguments.
func called(x arguments) []outcome {
	var out []outcome
	put := func(name string, e api.Errno, place any, results ...any) {
		out = append(out, outcome{name, e, place, results})
	}
	index, e := values.CheckSchema(x.S)
	put("CheckSchema", e, index)
	place, e := values.Fits(x.S, x.Y, x.V)
	put("Fits", e, place)
	normal, e := values.Normal(x.S, x.Y, x.V)
	put("Normal", e, nil, normal)
	is, e := values.IsNormal(x.S, x.Y, x.V)
	put("IsNormal", e, nil, is)
	order, e := values.Compare(x.V, x.W)
	put("Compare", e, nil, order)
	at, e := values.ValueAt(x.V, x.Place)
	put("ValueAt", e, nil, at)
	changed, e := values.Changed(x.V, x.Place, x.W)
	put("Changed", e, nil, changed)
	typ, e := values.TypeAt(x.S, x.Y, x.V, x.Place)
	put("TypeAt", e, nil, typ)
	text, e := values.FormatValue(x.S, x.Y, x.V)
	put("FormatValue", e, nil, text)
	v, index, e := values.ParseValue(x.S, x.Y, x.Text)
	put("ParseValue", e, index, v)
	return out
}

// fill puts numbers, strings and slices into what is given, many of which are wrong, at most so deep.
func fill(r *rand.Rand, v reflect.Value, depth int) {
	switch v.Kind() {
	case reflect.Int:
		odd := []int64{-1 << 63, -1, 0, 0, 0, 1, 1, 2, 3, 4, 5, 9, 10, 11, 12, 13, 14, 15, 17, 41, 201, api.MaxInteger, api.MaxInteger + 1, 1<<63 - 1}
		v.SetInt(odd[r.Intn(len(odd))])
	case reflect.Bool:
		v.SetBool(r.Intn(2) == 0)
	case reflect.String:
		odd := []string{"", "a", "A", "B", "01", " ", "IA5String", "\x00\xff", "{a 5}", "NULL", "{", "'0'H"}
		v.SetString(odd[r.Intn(len(odd))])
	case reflect.Slice:
		n := r.Intn(4)
		if depth == 0 || r.Intn(2) == 0 {
			n = 0
		}
		l := reflect.MakeSlice(v.Type(), n, n)
		for i := range n {
			fill(r, l.Index(i), depth-1)
		}
		v.Set(l)
	case reflect.Struct:
		for i := range v.NumField() {
			if r.Intn(3) > 0 {
				fill(r, v.Field(i), depth)
			}
		}
	}
}

// filled returns something with one part, somewhere within it, that is filled at random.
func filled[T any](r *rand.Rand, x T) T {
	x = deepCopy(x)
	v := reflect.ValueOf(&x).Elem()
	for r.Intn(12) > 0 {
		switch {
		case v.Kind() == reflect.Slice && v.Len() > 0:
			v = v.Index(r.Intn(v.Len()))
		case v.Kind() == reflect.Struct:
			v = v.Field(r.Intn(v.NumField()))
		}
	}
	fill(r, v, 2)
	return x
}

// deepCopy returns something that shares no memory with what it is made from.
func deepCopy[T any](x T) T {
	out := reflect.New(reflect.TypeOf(x)).Elem()
	copyInto(out, reflect.ValueOf(x))
	return out.Interface().(T)
}

func copyInto(to, from reflect.Value) {
	switch from.Kind() {
	case reflect.Slice:
		if from.IsNil() {
			return
		}
		l := reflect.MakeSlice(from.Type(), from.Len(), from.Len())
		for i := range from.Len() {
			copyInto(l.Index(i), from.Index(i))
		}
		to.Set(l)
	case reflect.Struct:
		for i := range from.NumField() {
			copyInto(to.Field(i), from.Field(i))
		}
	default:
		to.Set(from)
	}
}

// someArguments returns arguments that mostly fit one another.
func someArguments(m *maker) arguments {
	x := arguments{S: m.s, Y: m.full()}
	x.V, _ = m.value(x.Y, 1+m.Intn(6))
	x.W = m.spoilt(x.V)
	all := places(x.V, nil)
	x.Place = all[m.Intn(len(all))]
	x.Text, _ = values.FormatValue(x.S, x.Y, x.V)
	return x
}

// R1, R2, R3, R4: every call returns, has nothing beside an error, leaves its arguments as they are, and returns the same again.
func TestAnyArguments(t *testing.T) {
	fine := map[string]int{}
	for n := range 5000 {
		m := newMaker(int64(n))
		var x arguments
		fill(m.Rand, reflect.ValueOf(&x).Elem(), 4)
		if n%4 > 0 {
			x = someArguments(m)
		}
		if n%4 > 1 {
			x = filled(m.Rand, x)
		}
		before := deepCopy(x)
		first := called(x)
		if !reflect.DeepEqual(before, x) {
			t.Fatalf("an argument was changed: %+v", before)
		}
		if second := called(x); !reflect.DeepEqual(first, second) {
			t.Fatalf("%v, then %v", first, second)
		}
		for _, o := range first {
			wantRightOutcome(t, x, o)
			if o.e == api.OK {
				fine[o.name]++
			}
		}
	}
	for _, o := range called(arguments{}) {
		if fine[o.name] < 100 {
			t.Errorf("%s returns only %d times", o.name, fine[o.name])
		}
	}
}

// wantRightOutcome checks that there is nothing beside an error but a place, and no place without one.
func wantRightOutcome(t *testing.T, x arguments, o outcome) {
	t.Helper()
	if o.e == api.ErrBroken {
		t.Errorf("%s is broken", o.name)
	}
	for _, result := range o.results {
		if o.e != api.OK && !alike(result, reflect.Zero(reflect.TypeOf(result)).Interface()) {
			t.Errorf("%s: %+v beside error %d", o.name, result, o.e)
		}
	}
	switch o.name {
	case "CheckSchema":
		if i := o.place.(int); i < 0 || i > len(x.S) || (i == len(x.S)) != (o.e == api.OK) && i > 0 {
			t.Errorf("CheckSchema: index %d of %d, error %d", i, len(x.S), o.e)
		}
	case "ParseValue":
		if i := o.place.(int); i < 0 || i > len(x.Text) || o.e == api.OK && i < len(x.Text) {
			t.Errorf("ParseValue: place %d of %d, error %d", i, len(x.Text), o.e)
		}
	case "Fits":
		place := o.place.([]int)
		if _, e := values.ValueAt(x.V, place); len(place) > 0 && (e != api.OK || o.e == api.OK) {
			t.Errorf("Fits: place %v, error %d", place, o.e)
		}
	}
}

// R2: slices that contain themselves are too deep, or too large.
func TestEndlessArguments(t *testing.T) {
	of := make([]api.Type, 1)
	of[0] = listType(api.Type{})
	of[0].Of = of
	items := make([]api.Value, 2)
	for i := range items {
		items[i] = list(items...)
		items[i].Items = items
	}
	endless := api.Schema{{Name: "T", Type: of[0]}}
	for _, x := range []arguments{{S: endless}, {Y: of[0]}, {V: items[0]}} {
		for _, o := range called(x) {
			want := api.ErrLarge
			if o.name == "CheckSchema" && len(x.S) == 0 || o.name == "ParseValue" && len(x.V.Items) > 0 {
				continue
			}
			if x.V.Kind == 0 && (o.name == "Compare" || o.name == "ValueAt" || o.name == "Changed") {
				want = api.OK
			}
			wantResult(t, o.name+" of something endless", 0, o.e, 0, want)
		}
	}
	inDefault := api.Schema{{Name: "T", Type: withDefault(typeOf(t, "SEQUENCE {a NULL}"), "a", items[0])}}
	wantSchema(t, "an endless default", inDefault, 0, api.ErrLarge)
	changed, e := values.Changed(list(number(1)), []int{0}, items[0])
	wantResult(t, "Changed by something endless", changed, e, api.Value{}, api.ErrLarge)
	order, e := values.Compare(number(1), items[0])
	wantResult(t, "Compare with something endless", order, e, 0, api.ErrLarge)
}

// R2: calls end soon, also if defaults are compared within defaults that are compared, and left out, as often as may be.
func TestComparisonsEnd(t *testing.T) {
	const fields = 6
	six := record("a b c d e f", record(""), record(""), record(""), record(""), record(""), record(""))
	var s api.Schema
	for depth := range api.MaxDepth {
		y := typeOf(t, "SEQUENCE {...}")
		for i := range fields * min(1, api.MaxDepth-1-depth) {
			inner := six
			if depth == api.MaxDepth-2 {
				inner = record("")
			}
			y.Fields = append(y.Fields, api.Field{Name: six.Names[i], Type: ref(fmt.Sprint("T", depth+1)), Presence: api.FieldDefault, Default: []api.Value{inner}})
		}
		s = append(s, api.Named{Name: fmt.Sprint("T", depth), Type: y})
	}
	wantNormal(t, "defaults in defaults", s, ref("T0"), six, record(""))
}

// stretches returns where the slices of something lie in memory, their spare room included.
func stretches(v reflect.Value) [][2]uintptr {
	var l [][2]uintptr
	switch v.Kind() {
	case reflect.Slice:
		if v.Cap() > 0 {
			l = append(l, [2]uintptr{v.Pointer(), v.Pointer() + uintptr(v.Cap())*v.Type().Elem().Size()})
		}
		for i := range v.Len() {
			l = append(l, stretches(v.Index(i))...)
		}
	case reflect.Struct:
		for i := range v.NumField() {
			l = append(l, stretches(v.Field(i))...)
		}
	}
	return l
}

// memoryOf returns where all results of a call lie.
func memoryOf(o outcome) [][2]uintptr {
	var l [][2]uintptr
	for _, result := range append(o.results, o.place) {
		if result != nil {
			l = append(l, stretches(reflect.ValueOf(result))...)
		}
	}
	return l
}

// R3: results share memory neither with arguments nor with one another, nor with themselves.
func TestMemoryOfResults(t *testing.T) {
	for n := range 600 {
		x := someArguments(newMaker(int64(n)))
		if n%2 == 0 {
			x.V, x.W = x.W, x.V
		}
		others := stretches(reflect.ValueOf(x))
		for _, o := range append(called(x), called(x)...) {
			for _, a := range memoryOf(o) {
				for _, b := range others {
					if a[0] < b[1] && b[0] < a[1] {
						t.Fatalf("memory of %s is shared: %s", o.name, short(x))
					}
				}
				others = append(others, a)
			}
		}
	}
}

// emptied returns something in which each slice without items is an empty one, not nil.
func emptied[T any](x T) T {
	x = deepCopy(x)
	emptyWithin(reflect.ValueOf(&x).Elem())
	return x
}

func emptyWithin(v reflect.Value) {
	switch v.Kind() {
	case reflect.Slice:
		if v.Len() == 0 {
			v.Set(reflect.MakeSlice(v.Type(), 0, 0))
		}
		for i := range v.Len() {
			emptyWithin(v.Index(i))
		}
	case reflect.Struct:
		for i := range v.NumField() {
			emptyWithin(v.Field(i))
		}
	}
}

// R5: a nil slice is an empty one.
func TestEmptySlices(t *testing.T) {
	for n := range 600 {
		x := someArguments(newMaker(int64(n)))
		if n%3 == 0 {
			x.V = x.W
		}
		others := called(emptied(x))
		for i, o := range called(x) {
			for j, result := range o.results {
				wantResult(t, o.name+" of nil slices", result, o.e, others[i].results[j], others[i].e)
			}
			if o.place != nil {
				wantResult(t, o.name+" of nil slices", o.place, o.e, others[i].place, others[i].e)
			}
		}
	}
}
