package limits_test

import (
	"fmt"
	"math/rand"
	"reflect"
	"testing"

	"examiner/api"
	"examiner/limits"
)

// An outcome is what a function returns.
type outcome struct {
	name    string
	results []any
	e       api.Errno
}

// called returns the outcomes of all functions for some arguments.
func called(x arguments) []outcome {
	var out []outcome
	put := func(name string, e api.Errno, results ...any) { out = append(out, outcome{name, results, e}) }
	permits, e := limits.Permits(x.Y, x.V)
	put("Permits", e, permits)
	inRoot, e := limits.InRoot(x.Y, x.V)
	put("InRoot", e, inRoot)
	combined, e := limits.Combined(x.Op, x.A, x.B)
	put("Combined", e, combined)
	spans, e := limits.SpansOf(x.Y)
	put("SpansOf", e, spans)
	span, open, e := limits.RangeOf(x.Y)
	put("RangeOf", e, span, open)
	span, open, e = limits.SizeOf(x.Y)
	put("SizeOf", e, span, open)
	alphabet, e := limits.AlphabetOf(x.Y)
	put("AlphabetOf", e, alphabet)
	least, e := limits.LeastOf(x.Y)
	put("LeastOf", e, least)
	outside, e := limits.OutsideOf(x.Y, x.Z)
	put("OutsideOf", e, outside)
	characters, e := limits.CharactersOf(x.Y.Name)
	put("CharactersOf", e, characters)
	return out
}

// arguments are those of all functions.
type arguments struct {
	Y, Z api.Type
	V    api.Value
	Op   int
	A, B []api.Span
}

// fill puts numbers, strings and slices into what is given, many of which are wrong, at most so deep.
func fill(r *rand.Rand, v reflect.Value, depth int) {
	switch v.Kind() {
	case reflect.Int:
		odd := []int64{-1 << 63, -1, 0, 0, 0, 1, 1, 2, 3, 4, 5, 6, 7, 10, 41, 127, 128, 201, api.MaxInteger, api.MaxInteger + 1, 1<<63 - 1}
		v.SetInt(odd[r.Intn(len(odd))])
	case reflect.Bool:
		v.SetBool(r.Intn(2) == 0)
	case reflect.String:
		odd := []string{"", "a", "A", "01", " ", "IA5String", "NumericString", "\x00\xff"}
		v.SetString(odd[r.Intn(len(odd))])
	case reflect.Slice:
		n := r.Intn(4)
		if depth == 0 || r.Intn(2) == 0 {
			n = 0
		}
		l := reflect.MakeSlice(v.Type(), n, n)
		for i := range n {
			fill(r, l.Index(i), depth-1)
		}
		v.Set(l)
	case reflect.Struct:
		for i := range v.NumField() {
			if r.Intn(3) > 0 {
				fill(r, v.Field(i), depth)
			}
		}
	}
}

// spoilt returns something with one part, somewhere within it, that is filled at random.
func spoilt[T any](r *rand.Rand, x T) T {
	x = deepCopy(x)
	v := reflect.ValueOf(&x).Elem()
	for r.Intn(12) > 0 {
		switch {
		case v.Kind() == reflect.Slice && v.Len() > 0:
			v = v.Index(r.Intn(v.Len()))
		case v.Kind() == reflect.Struct:
			v = v.Field(r.Intn(v.NumField()))
		}
	}
	fill(r, v, 2)
	return x
}

// deepCopy returns something that shares no memory with what it is made from.
func deepCopy[T any](x T) T {
	out := reflect.New(reflect.TypeOf(x)).Elem()
	copyInto(out, reflect.ValueOf(x))
	return out.Interface().(T)
}

func copyInto(to, from reflect.Value) {
	switch from.Kind() {
	case reflect.Slice:
		if from.IsNil() {
			return
		}
		l := reflect.MakeSlice(from.Type(), from.Len(), from.Len())
		for i := range from.Len() {
			copyInto(l.Index(i), from.Index(i))
		}
		to.Set(l)
	case reflect.Struct:
		for i := range from.NumField() {
			copyInto(to.Field(i), from.Field(i))
		}
	default:
		to.Set(from)
	}
}

// R1, R2, R3, R4: every call returns, has nothing beside an error, leaves its arguments as they are, and returns the same again.
func TestAnyArguments(t *testing.T) {
	m := maker{rand.New(rand.NewSource(8))}
	fine := map[string]int{}
	for n := range 8000 {
		var x arguments
		fill(m.Rand, reflect.ValueOf(&x).Elem(), 4)
		if n%4 > 0 {
			y := m.typ()
			x = arguments{y, m.typ(), m.value(y), m.Intn(5) - 1, m.spans(), m.spans()}
		}
		if n%4 > 1 {
			x = spoilt(m.Rand, x)
		}
		before := deepCopy(x)
		first := called(x)
		if !reflect.DeepEqual(before, x) {
			t.Fatalf("an argument was changed: %+v", before)
		}
		if second := called(x); !reflect.DeepEqual(first, second) {
			t.Fatalf("%v, then %v", first, second)
		}
		for _, o := range first {
			if o.e == api.OK {
				fine[o.name]++
				continue
			}
			for _, result := range o.results {
				if !alike(result, reflect.Zero(reflect.TypeOf(result)).Interface()) {
					t.Errorf("%s: %+v beside error %d", o.name, result, o.e)
				}
			}
		}
		wantIndexes(t, x)
	}
	for _, o := range called(arguments{}) {
		if fine[o.name] < 100 {
			t.Errorf("%s returns only %d times", o.name, fine[o.name])
		}
	}
}

// wantIndexes checks that what CheckLimits and CheckSpans return beside an error is an index.
func wantIndexes(t *testing.T, x arguments) {
	t.Helper()
	at, e := limits.CheckLimits(x.Y)
	if at < 0 || at > len(x.Y.Limits) || (at == len(x.Y.Limits)) != (e == api.OK) && at != 0 {
		t.Errorf("CheckLimits: index %d of %d, error %d", at, len(x.Y.Limits), e)
	}
	at, e = limits.CheckSpans(x.A)
	if at < 0 || at > len(x.A) || (at == len(x.A)) != (e == api.OK) && at != 0 {
		t.Errorf("CheckSpans: index %d of %d, error %d", at, len(x.A), e)
	}
}

// R2: slices that contain themselves are too deep, or too large.
func TestEndlessArguments(t *testing.T) {
	of := make([]api.Type, 1)
	of[0] = api.Type{Kind: api.TypeList, Of: of, Limits: size(span(1, 2))}
	values := make([]api.Value, 2)
	for i := range values {
		values[i] = api.Value{Kind: api.ValueList, Items: values}
	}
	null := limited(api.TypeNull, nil)
	for _, o := range called(arguments{Y: of[0], Z: null, V: values[0], Op: api.SpanOps}) {
		if o.name != "Combined" && o.name != "CharactersOf" {
			wantResult(t, o.name+" of an endless type", 0, o.e, 0, api.ErrLarge)
		}
	}
	wantChecked(t, "an endless type", of[0], 0, api.ErrLarge)
	wantPermitted(t, "an endless value", null, values[0], false, false, api.ErrLarge)
	outside, e := limits.OutsideOf(null, of[0])
	wantResult(t, "OutsideOf an endless type", outside, e, 0, api.ErrLarge)
}

// R2: calls end soon, also if a search through as many sets of characters as there may be finds nothing.
func TestSearchesEnd(t *testing.T) {
	var sets []api.Limits
	for bit := range 6 {
		odd := ""
		for c := range 128 {
			if c>>bit&1 == 1 {
				odd += bytes(c, c)
			}
		}
		sets = append(sets, from(text(odd)))
	}
	some := sets[1]
	for _, set := range sets[2:] {
		some = union(some, set)
	}
	wantLeast(t, "one of the sets, and none", limited(api.TypeChars, both(some, without(sets[0], sets[0]))), nil)
	wantLeast(t, "the empty string, without all sets", limited(api.TypeChars, without(text(""), some)), nil)
}

// stretches returns where the slices of something lie in memory, their spare room included.
func stretches(v reflect.Value) [][2]uintptr {
	var l [][2]uintptr
	switch v.Kind() {
	case reflect.Slice:
		if v.Cap() > 0 {
			l = append(l, [2]uintptr{v.Pointer(), v.Pointer() + uintptr(v.Cap())*v.Type().Elem().Size()})
		}
		for i := range v.Len() {
			l = append(l, stretches(v.Index(i))...)
		}
	case reflect.Struct:
		for i := range v.NumField() {
			l = append(l, stretches(v.Field(i))...)
		}
	}
	return l
}

// R3: results share memory neither with arguments nor with results of other calls.
func TestMemoryOfResults(t *testing.T) {
	m := maker{rand.New(rand.NewSource(9))}
	types := append(someTypes(), typeOf(t, "NumericString (FROM (\"1\"))"), typeOf(t, "SET (SIZE (1 | 3), ...) OF NULL"))
	for _, y := range types {
		x := arguments{Y: y, Z: y, V: m.value(y), A: m.spans(), B: m.spans()}
		for op := range api.SpanOps {
			x.Op = op
			var own [][2]uintptr
			for _, o := range append(called(x), called(x)...) {
				for _, result := range o.results {
					own = append(own, stretches(reflect.ValueOf(result))...)
				}
			}
			others := stretches(reflect.ValueOf(x))
			for i, a := range own {
				for _, b := range append(others, own[:i]...) {
					if a[0] < b[1] && b[0] < a[1] {
						t.Errorf("memory is shared: %+v", y)
					}
				}
			}
		}
	}
}

// R5: a nil slice is an empty one.
func TestEmptySlices(t *testing.T) {
	for i, y := range someTypes() {
		empty := y
		empty.Limits = api.Limits{}
		if empty.Tags == nil {
			empty.Tags = []api.Tag{}
		}
		v := someValues()[min(i, len(someValues())-1)]
		for j, o := range called(arguments{Y: empty, Z: empty, V: v, A: []api.Span{}, B: []api.Span{}}) {
			other := called(arguments{Y: y, Z: y, V: v})[j]
			wantResult(t, fmt.Sprintf("%s of type %d", o.name, i), o.results[0], o.e, other.results[0], other.e)
		}
		wantChecked(t, "no nodes", empty, 0, api.OK)
	}
	leaf := api.Limits{{Low: 1, High: 2, Args: []int{}}}
	wantChecked(t, "no operands", limited(api.TypeInt, leaf), 1, api.OK)
	wantPermitted(t, "no items", limited(api.TypeList, nil), api.Value{Kind: api.ValueList, Items: []api.Value{}, Names: []string{}}, true, true, api.OK)
	count, e := limits.CheckSpans([]api.Span{})
	wantResult(t, "CheckSpans of none", count, e, 0, api.OK)
}
