package notation_test

import (
	"math/rand"
	"reflect"
	"strings"
	"testing"

	"examiner/api"
	"examiner/notation"
)

// fill puts numbers, strings and slices into what is given, many of which are wrong, at most so deep.
func fill(r *rand.Rand, v reflect.Value, depth int) {
	switch v.Kind() {
	case reflect.Int:
		odd := []int64{-1 << 63, -api.MaxInteger - 1, -1, 0, 0, 0, 1, 1, 2, 3, 5, 9, 12, 13, 14, 15, 16, api.MaxTag + 1, api.MaxInteger + 1, 1<<63 - 1}
		v.SetInt(odd[r.Intn(len(odd))])
	case reflect.Bool:
		v.SetBool(r.Intn(2) == 0)
	case reflect.String:
		odd := []string{"", "", "a", "B", "c-d", "?", "01", "IA5String", "TRUE", "\x00\xff", strings.Repeat("x", 201)}
		v.SetString(odd[r.Intn(len(odd))])
	case reflect.Slice:
		n := r.Intn(4)
		if depth == 0 || r.Intn(2) == 0 {
			n = 0
		}
		l := reflect.MakeSlice(v.Type(), n, n)
		for i := range n {
			fill(r, l.Index(i), depth-1)
		}
		v.Set(l)
	case reflect.Struct:
		for i := range v.NumField() {
			if r.Intn(3) > 0 {
				fill(r, v.Field(i), depth)
			}
		}
	}
}

// filled returns something of a type that is filled at random.
func filled[T any](r *rand.Rand, depth int) T {
	var x T
	fill(r, reflect.ValueOf(&x).Elem(), depth)
	return x
}

// spoilt returns something that is right with one part, somewhere within it, that is filled at random.
func spoilt[T any](r *rand.Rand, x T) T {
	v := reflect.ValueOf(&x).Elem()
	for r.Intn(12) > 0 {
		next := v
		switch {
		case v.Kind() == reflect.Slice && v.Len() > 0:
			copied := reflect.MakeSlice(v.Type(), v.Len(), v.Len())
			reflect.Copy(copied, v)
			v.Set(copied)
			next = v.Index(r.Intn(v.Len()))
		case v.Kind() == reflect.Struct:
			next = v.Field(r.Intn(v.NumField()))
		}
		v = next
	}
	fill(r, v, 2)
	return x
}

// called returns the results of all functions for some arguments.
func called(s api.Schema, y api.Type, v api.Value, m api.AsnModule, text string) []any {
	var out []any
	add := func(l ...any) { out = append(out, l...) }
	add(notation.CheckType(y), notation.CheckForm(v))
	n, e := notation.CheckTypes(s)
	add(n, e)
	resolved, e := notation.Resolved(s, y)
	add(resolved, e)
	n, e = notation.CheckModule(m)
	add(n, e)
	written, e := notation.FormatType(y)
	add(written, e)
	written, e = notation.FormatPlain(v)
	add(written, e)
	written, e = notation.FormatModule(m)
	add(written, e)
	y, n, e = notation.ParseType(text)
	add(y, n, e)
	v, n, e = notation.ParsePlain(text)
	add(v, n, e)
	m, n, e = notation.ParseModule(text)
	add(m, n, e)
	return out
}

// R2, R3, R4: every call returns, leaves its arguments as they are, and returns the same again.
func TestAnyArguments(t *testing.T) {
	m := maker{rand.New(rand.NewSource(6))}
	pool := tokenPool()
	for n := range 8000 {
		y, v, a, s := filled[api.Type](m.Rand, 4), filled[api.Value](m.Rand, 4), filled[api.AsnModule](m.Rand, 3), filled[api.Schema](m.Rand, 4)
		if n%2 == 0 {
			y, v, a = spoilt(m.Rand, m.typ(3, n%4 == 0)), spoilt(m.Rand, m.value(3)), spoilt(m.Rand, m.module())
			s = spoilt(m.Rand, api.Schema{{Name: "A", Type: m.typ(2, true)}, {Name: "B", Type: m.typ(2, true)}, {Name: "U", Type: m.typ(2, true)}})
		}
		var text strings.Builder
		for range m.Intn(12) {
			text.WriteString(pool[m.Intn(len(pool))] + " ")
		}
		before := []any{deepCopy(s), deepCopy(y), deepCopy(v), deepCopy(a)}
		first := called(s, y, v, a, text.String())
		if !reflect.DeepEqual(before, []any{s, y, v, a}) {
			t.Fatalf("an argument was changed: %+v", before)
		}
		if second := called(s, y, v, a, text.String()); !reflect.DeepEqual(first, second) {
			t.Fatalf("%v, then %v", first, second)
		}
	}
}

// deepCopy returns something that shares no memory with what it is made from.
func deepCopy[T any](x T) T {
	out := reflect.New(reflect.TypeOf(x)).Elem()
	copyInto(out, reflect.ValueOf(x))
	return out.Interface().(T)
}

func copyInto(to, from reflect.Value) {
	switch from.Kind() {
	case reflect.Slice:
		if from.IsNil() {
			return
		}
		l := reflect.MakeSlice(from.Type(), from.Len(), from.Len())
		for i := range from.Len() {
			copyInto(l.Index(i), from.Index(i))
		}
		to.Set(l)
	case reflect.Struct:
		for i := range from.NumField() {
			copyInto(to.Field(i), from.Field(i))
		}
	default:
		to.Set(from)
	}
}

// R2: slices that contain themselves are too deep, or too large.
func TestEndlessArguments(t *testing.T) {
	of := make([]api.Type, 1)
	of[0] = api.Type{Kind: api.TypeList, Of: of}
	wide := make([]api.Field, 3)
	for i := range wide {
		wide[i] = field("a", api.Type{Kind: api.TypeRecord, Fields: wide, Root: 3})
	}
	values := make([]api.Value, 2)
	for i := range values {
		values[i] = items(api.ValueBag, values...)
	}
	for i, y := range []api.Type{of[0], wide[0].Type, fields(api.TypeRecord, defaulted(field("a", null()), values...)), {Kind: -1, Of: of}} {
		wantErr(t, "an endless type", notation.CheckType(y), api.ErrLarge)
		if n, e := notation.CheckTypes(api.Schema{{Name: "A"}, {Name: "B", Type: y}}); n != 1 || e != api.ErrLarge {
			t.Errorf("an endless type %d in a schema: %d, %d", i, n, e)
		}
		_, e := notation.Resolved(nil, y)
		wantErr(t, "an endless type", e, api.ErrLarge)
		_, e = notation.FormatType(y)
		wantErr(t, "an endless type", e, api.ErrLarge)
		_, e = notation.CheckModule(api.AsnModule{Name: "M", Items: []api.Assigned{{Name: "T", Type: y}}})
		wantErr(t, "an endless type in a module", e, api.ErrLarge)
		_, e = notation.CheckModule(api.AsnModule{Name: "M", Items: []api.Assigned{{Kind: api.ItemClass, Name: "T", Type: y}}})
		wantErr(t, "an endless type where none may be", e, api.ErrForm)
	}
	wantErr(t, "an endless value", notation.CheckForm(values[0]), api.ErrLarge)
	_, e := notation.FormatPlain(values[0])
	wantErr(t, "an endless value", e, api.ErrLarge)
}

// poison writes into all slices of what is given, as a caller may.
func poison(v reflect.Value) {
	switch v.Kind() {
	case reflect.Slice:
		for i := range v.Len() {
			poison(v.Index(i))
			if v.Index(i).CanSet() {
				v.Index(i).SetZero()
			}
		}
	case reflect.Struct:
		for i := range v.NumField() {
			poison(v.Field(i))
		}
	}
}

// R3: results share memory neither with arguments nor with one another.
func TestMemoryOfResults(t *testing.T) {
	s := schemaOf(t, "T", "[1] SEQUENCE (SIZE (1..2), ...) OF SEQUENCE {a ENUMERATED {x (1)} OPTIONAL, b U DEFAULT {c {1, 2}}}", "V", "INTEGER (1..9)")
	for _, y := range []api.Type{typeOf(t, "[2] T (SIZE (3), ..., SIZE (4))"), typeOf(t, "[2] T"), typeOf(t, "V (1..3)"), typeOf(t, "[1] SEQUENCE {a [3] INTEGER (1 | 2) DEFAULT {c {1, 2}}, b SET OF NULL}"), typeOf(t, "INTEGER (1 | 2)")} {
		wantSchema, wantType := deepCopy(s), deepCopy(y)
		resolved, e := notation.Resolved(s, y)
		wantErr(t, "Resolved", e, api.OK)
		want := deepCopy(resolved)
		again, _ := notation.Resolved(s, y)
		poison(reflect.ValueOf(resolved))
		if !reflect.DeepEqual(s, wantSchema) || !reflect.DeepEqual(y, wantType) || !reflect.DeepEqual(again, want) {
			t.Errorf("what Resolved returns shares memory: %+v", want)
		}
		wantDisjoint(t, again)
	}
	wantDisjoint(t, typeOf(t, "SEQUENCE {a [1] T DEFAULT {x 1, y {}}, ..., [[b SET (SIZE (1 | 2)) OF C.&id ({S} {@a}), c ENUMERATED {x (0)}]]}"))
	wantDisjoint(t, moduleOf(t, largeModuleText))
	wantDisjoint(t, plainOf(t, "{a {1 2}, b {c: T: {{}, {a}}, d}}"))
}

// wantDisjoint checks that no two slices of a result have memory in common, their spare room included.
func wantDisjoint(t *testing.T, x any) {
	t.Helper()
	type stretch struct{ from, to uintptr }
	var seen []stretch
	var visit func(reflect.Value)
	visit = func(v reflect.Value) {
		switch v.Kind() {
		case reflect.Slice:
			if v.Cap() > 0 {
				from := v.Pointer()
				k := stretch{from, from + uintptr(v.Cap())*v.Type().Elem().Size()}
				for _, other := range seen {
					if k.from < other.to && other.from < k.to {
						t.Errorf("two slices of %+v share memory", x)
					}
				}
				seen = append(seen, k)
			}
			for i := range v.Len() {
				visit(v.Index(i))
			}
		case reflect.Struct:
			for i := range v.NumField() {
				visit(v.Field(i))
			}
		}
	}
	visit(reflect.ValueOf(x))
}

// R5: a nil slice is an empty one.
func TestEmptySlices(t *testing.T) {
	empty := api.Type{Tags: []api.Tag{}, Fields: []api.Field{}, Of: []api.Type{}, Limits: api.Limits{}}
	wantErr(t, "an empty type", notation.CheckType(empty), api.OK)
	wantErr(t, "an item", notation.CheckType(fields(api.TypeEnum, api.Field{Name: "a", Type: empty, Default: []api.Value{}})), api.OK)
	wantErr(t, "an empty value", notation.CheckForm(api.Value{Names: []string{}, Items: []api.Value{}}), api.OK)
	if n, e := notation.CheckTypes(api.Schema{}); n != 0 || e != api.OK {
		t.Errorf("an empty schema: %d, %d", n, e)
	}
	m := api.AsnModule{Name: "M", All: true, Exports: []string{}, Imports: []api.Import{}, Items: []api.Assigned{{Kind: api.ItemClass, Name: "C", Params: []string{}, Type: empty, Value: api.Value{Names: []string{}, Items: []api.Value{}}, Class: []api.ClassField{{Name: "T", Fixed: []api.Type{}}}, Settings: []api.Setting{}, Names: []string{}}}}
	if n, e := notation.CheckModule(m); n != 1 || e != api.OK {
		t.Errorf("a module with empty slices: %d, %d", n, e)
	}
	if s, e := notation.FormatType(empty); s != "NULL" || e != api.OK {
		t.Errorf("an empty type: %q, %d", s, e)
	}
}
