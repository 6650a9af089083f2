package tags_test

import (
	"math/rand"
	"reflect"
	"testing"

	"examiner/api"
	"examiner/tags"
)

// fill puts numbers, strings and slices into what is given, many of which are wrong, at most so deep.
func fill(r *rand.Rand, v reflect.Value, depth int) {
	switch v.Kind() {
	case reflect.Int:
		odd := []int64{-1 << 63, -1, 0, 0, 0, 1, 1, 2, 3, 9, 10, 13, 14, 15, 16, api.MaxTag + 1, 1<<63 - 1}
		v.SetInt(odd[r.Intn(len(odd))])
	case reflect.Bool:
		v.SetBool(r.Intn(2) == 0)
	case reflect.String:
		odd := []string{"", "a", "A", "B", "components", "IA5String", "X", "\x00\xff"}
		v.SetString(odd[r.Intn(len(odd))])
	case reflect.Slice:
		n := r.Intn(4)
		if depth == 0 || r.Intn(2) == 0 {
			n = 0
		}
		l := reflect.MakeSlice(v.Type(), n, n)
		for i := range n {
			fill(r, l.Index(i), depth-1)
		}
		v.Set(l)
	case reflect.Struct:
		for i := range v.NumField() {
			if r.Intn(3) > 0 {
				fill(r, v.Field(i), depth)
			}
		}
	}
}

// filled returns something of a type that is filled at random.
func filled[T any](r *rand.Rand, depth int) T {
	var x T
	fill(r, reflect.ValueOf(&x).Elem(), depth)
	return x
}

// spoilt returns something with one part, somewhere within it, that is filled at random.
func spoilt[T any](r *rand.Rand, x T) T {
	x = deepCopy(x)
	v := reflect.ValueOf(&x).Elem()
	for r.Intn(12) > 0 {
		switch {
		case v.Kind() == reflect.Slice && v.Len() > 0:
			v = v.Index(r.Intn(v.Len()))
		case v.Kind() == reflect.Struct:
			v = v.Field(r.Intn(v.NumField()))
		}
	}
	fill(r, v, 2)
	return x
}

// deepCopy returns something that shares no memory with what it is made from.
func deepCopy[T any](x T) T {
	out := reflect.New(reflect.TypeOf(x)).Elem()
	copyInto(out, reflect.ValueOf(x))
	return out.Interface().(T)
}

func copyInto(to, from reflect.Value) {
	switch from.Kind() {
	case reflect.Slice:
		if from.IsNil() {
			return
		}
		l := reflect.MakeSlice(from.Type(), from.Len(), from.Len())
		for i := range from.Len() {
			copyInto(l.Index(i), from.Index(i))
		}
		to.Set(l)
	case reflect.Struct:
		for i := range from.NumField() {
			copyInto(to.Field(i), from.Field(i))
		}
	default:
		to.Set(from)
	}
}

// called returns the outcomes of all functions for some arguments.
func called(s api.Schema, y api.Type, way int, l []api.TagPair) []outcome {
	settled, e := tags.Settled(s, way)
	out := []outcome{{[]any{settled}, e}}
	pair, e := tags.UniversalOf(y)
	out = append(out, outcome{[]any{pair}, e})
	is, e := tags.IsSettled(s)
	out = append(out, outcome{[]any{is}, e})
	automatic, e := tags.Automatic(y)
	out = append(out, outcome{[]any{automatic}, e})
	pairs, e := tags.PairsOf(s, y)
	out = append(out, outcome{[]any{pairs}, e})
	begins, anything, e := tags.BeginsWith(s, y)
	out = append(out, outcome{[]any{begins, anything}, e})
	clash, found, e := tags.ClashIn(s)
	out = append(out, outcome{[]any{clash, found}, e})
	order, e := tags.CanonicalOrder(s, y)
	out = append(out, outcome{[]any{order}, e})
	with, e := tags.WithComponents(s, y)
	out = append(out, outcome{[]any{with}, e})
	text, e := tags.FormatPairs(l)
	return append(out, outcome{[]any{text}, e})
}

// R1, R2, R3, R4: every call returns, has nothing beside an error, leaves its arguments as they are, and returns the same again.
func TestAnyArguments(t *testing.T) {
	m := maker{rand.New(rand.NewSource(6))}
	for n := range 6000 {
		s, y := filled[api.Schema](m.Rand, 4), filled[api.Type](m.Rand, 4)
		if n%4 > 0 {
			s = m.schema(3)
			y = m.typ(3)
		}
		if n%4 > 1 {
			_, s = m.rightSchema(3, m.Intn(api.Ways))
			y = spoilt(m.Rand, s[m.Intn(4)].Type)
		}
		if n%4 > 2 {
			s = spoilt(m.Rand, s)
		}
		way, l := m.Intn(5)-1, filled[[]api.TagPair](m.Rand, 2)
		before := []any{deepCopy(s), deepCopy(y), deepCopy(l)}
		first := called(s, y, way, l)
		if !reflect.DeepEqual(before, []any{s, y, l}) {
			t.Fatalf("an argument was changed: %+v", before)
		}
		if second := called(s, y, way, l); !reflect.DeepEqual(first, second) {
			t.Fatalf("%v, then %v", first, second)
		}
		for _, o := range first {
			for _, x := range o.results {
				if o.e != api.OK && !alike(x, reflect.Zero(reflect.TypeOf(x)).Interface()) {
					t.Errorf("%+v beside error %d", x, o.e)
				}
			}
		}
	}
}

// R2: slices that contain themselves are too deep, or too large.
func TestEndlessArguments(t *testing.T) {
	of := make([]api.Type, 1)
	of[0] = api.Type{Kind: api.TypeList, Of: of}
	endless := make([]api.Field, 2)
	for i := range endless {
		endless[i] = api.Field{Name: "components", Type: api.Type{Kind: api.TypeUnion, Fields: endless, Root: 2}}
	}
	values := make([]api.Value, 2)
	for i := range values {
		values[i] = api.Value{Kind: api.ValueBag, Items: values}
	}
	defaulted := fields(api.TypeRecord, kind(api.TypeNull))
	defaulted.Fields[0].Presence = api.FieldDefault
	defaulted.Fields[0].Default = values[:1]
	for _, y := range []api.Type{of[0], endless[0].Type, defaulted} {
		for name, call := range typeCalls() {
			wantFault(t, name+" of an endless type", call(nil, y), api.ErrLarge)
			wantFault(t, name+" in an endless schema", call(one("T", y), y), api.ErrLarge)
		}
		for name, call := range schemaCalls() {
			wantFault(t, name+" of an endless type", call(one("T", y)), api.ErrLarge)
		}
		pair, e := tags.UniversalOf(y)
		wantResult(t, "UniversalOf an endless type", pair, e, api.TagPair{}, api.ErrLarge)
		automatic, e := tags.Automatic(y)
		wantResult(t, "Automatic of an endless type", automatic, e, api.Type{}, api.ErrLarge)
	}
}

// stretches returns where the slices of something lie in memory, their spare room included.
func stretches(v reflect.Value) [][2]uintptr {
	var l [][2]uintptr
	switch v.Kind() {
	case reflect.Slice:
		if v.Cap() > 0 {
			l = append(l, [2]uintptr{v.Pointer(), v.Pointer() + uintptr(v.Cap())*v.Type().Elem().Size()})
		}
		for i := range v.Len() {
			l = append(l, stretches(v.Index(i))...)
		}
	case reflect.Struct:
		for i := range v.NumField() {
			l = append(l, stretches(v.Field(i))...)
		}
	}
	return l
}

// wantOwnMemory checks that no two slices of a result share memory, nor one of a result and one of an argument.
func wantOwnMemory(t *testing.T, what string, result any, arguments ...any) {
	t.Helper()
	own := stretches(reflect.ValueOf(result))
	var others [][2]uintptr
	for _, x := range arguments {
		others = append(others, stretches(reflect.ValueOf(x))...)
	}
	if len(own) == 0 {
		t.Errorf("%s: no memory", what)
	}
	for i, a := range own {
		for _, b := range append(others, own[:i]...) {
			if a[0] < b[1] && b[0] < a[1] {
				t.Errorf("%s: memory is shared", what)
			}
		}
	}
}

// R3: results share memory neither with arguments nor with one another.
func TestMemoryOfResults(t *testing.T) {
	s := schemaOf(t, "T ::= [1] EXPLICIT SEQUENCE {a ENUMERATED {x (1)} OPTIONAL, b U (SIZE (1 | 2)) DEFAULT {c {1, 2}}, components V} U ::= [2] EXPLICIT SET (SIZE (1..2), ...) OF NULL V ::= SEQUENCE {v [3] IMPLICIT INTEGER (1 | 2) DEFAULT 1, w U DEFAULT {a 5}} W ::= CHOICE {a CHOICE {b NULL, c REAL}, d U}")
	y := typeOf(t, "SEQUENCE {components T, x SET OF [1] EXPLICIT INTEGER (1 | 2), y SEQUENCE {z NULL DEFAULT {1 2}}}")
	for way := range api.Ways {
		settled, _ := tags.Settled(s, way)
		wantOwnMemory(t, "Settled", settled, s)
	}
	automatic, _ := tags.Automatic(y)
	wantOwnMemory(t, "Automatic", automatic, y)
	for _, z := range []api.Type{y, ref("U"), typeOf(t, "[1] IMPLICIT U")} {
		pairs, _ := tags.PairsOf(s, z)
		wantOwnMemory(t, "PairsOf", pairs, s, z)
	}
	begins, _, _ := tags.BeginsWith(s, ref("W"))
	wantOwnMemory(t, "BeginsWith", begins, s)
	order, _ := tags.CanonicalOrder(s, ref("W"))
	wantOwnMemory(t, "CanonicalOrder", order, s)
	with, _ := tags.WithComponents(s, y)
	wantOwnMemory(t, "WithComponents", with, s, y)
	s[3].Type = fields(api.TypeSet, fields(api.TypeSet, kind(api.TypeNull), kind(api.TypeNull)))
	clash, _, _ := tags.ClashIn(s)
	wantOwnMemory(t, "ClashIn", clash, s)
}

// R5: a nil slice is an empty one.
func TestEmptySlices(t *testing.T) {
	empty := api.Type{Tags: []api.Tag{}, Fields: []api.Field{}, Of: []api.Type{}, Limits: api.Limits{}}
	record := empty
	record.Kind = api.TypeRecord
	open := empty
	open.Kind = api.TypeOpen
	for _, s := range []api.Schema{nil, {}, one("T", empty), one("T", open)} {
		is, e := tags.IsSettled(s)
		wantResult(t, "IsSettled", is, e, true, api.OK)
		settled, e := tags.Settled(s, api.WayAutomatic)
		wantResult(t, "Settled", settled, e, s, api.OK)
		wantClash(t, s, "ClashIn", api.TagClash{}, false)
		pairs, e := tags.PairsOf(s, record)
		wantResult(t, "PairsOf", pairs, e, pairsIn("U16"), api.OK)
		y, e := tags.WithComponents(s, record)
		wantResult(t, "WithComponents", y, e, record, api.OK)
		if len(s) > 0 {
			y, e := tags.Automatic(fields(api.TypeSet, s[0].Type))
			wantResult(t, "Automatic", y.Fields[0].Type.Tags, e, []api.Tag{context(0, api.TagPlain)}, api.OK)
		}
	}
	text, e := tags.FormatPairs([]api.TagPair{})
	wantResult(t, "FormatPairs", text, e, "", api.OK)
}
