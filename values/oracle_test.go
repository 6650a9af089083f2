package values_test

import (
	"slices"
	"strings"
	"testing"

	"examiner/api"
	"examiner/lexis"
	"examiner/limits"
	"examiner/values"
)

// An oracle says slowly, place by place and by the words of the chapter, what is true of values of types of a schema.
type oracle struct{ s api.Schema }

// resolved follows references name by name.
func (o oracle) resolved(y api.Type) (api.Type, api.Errno) {
	tags := len(y.Tags)
	for met := 1; y.Kind == api.TypeRef; met++ {
		i := slices.IndexFunc(o.s, func(n api.Named) bool { return n.Name == y.Name })
		if met > api.MaxTypes {
			return y, api.ErrLoop
		}
		y = o.s[i].Type
		if tags += len(y.Tags); tags > 6 {
			return y, api.ErrLarge
		}
	}
	return y, api.OK
}

// typeAt returns the type at a place where there is a value, followed only up to the place itself.
func (o oracle) typeAt(y api.Type, v api.Value, place []int) api.Type {
	if len(place) == 0 {
		return y
	}
	y, _ = o.resolved(y)
	index := place[0]
	inner := api.Type{Kind: api.TypeInt} // of an object identifier
	switch y.Kind {
	case api.TypeRecord, api.TypeSet, api.TypeUnion:
		for _, f := range y.Fields {
			if f.Name == v.Names[index] {
				inner = f.Type
			}
		}
	case api.TypeList, api.TypeBag:
		inner = y.Of[0]
	case api.TypeOpen:
		inner = ref(v.S)
		if v.S == "" {
			inner = api.Type{Kind: api.TypeOctets}
		}
	}
	return o.typeAt(inner, v.Items[index], place[1:])
}

// fits returns the first fault of a value.
func (o oracle) fits(y api.Type, v api.Value) ([]int, api.Errno) {
	for _, place := range places(v, nil) {
		at, _ := values.ValueAt(v, place)
		if e := o.fault(o.typeAt(y, v, place), at); e != api.OK {
			return place, e
		}
	}
	return nil, api.OK
}

func (o oracle) fault(y api.Type, v api.Value) api.Errno {
	y, e := o.resolved(y)
	if e != api.OK {
		return e
	}
	kinds := map[int][]int{
		api.ValueNull: {api.TypeNull}, api.ValueBool: {api.TypeBool}, api.ValueInt: {api.TypeInt}, api.ValueEnum: {api.TypeEnum}, api.ValueBits: {api.TypeBits},
		api.ValueOctets: {api.TypeOctets}, api.ValueChars: {api.TypeChars}, api.ValueOid: {api.TypeOid}, api.ValueReal: {api.TypeReal}, api.ValueRecord: {api.TypeRecord, api.TypeSet},
		api.ValueList: {api.TypeList}, api.ValueBag: {api.TypeBag}, api.ValueUnion: {api.TypeUnion}, api.ValueOpen: {api.TypeOpen},
	}
	if !slices.Contains(kinds[v.Kind], y.Kind) || y.Kind == api.TypeChars && !hasOnly(v.S, y.Name) {
		return api.ErrType
	}
	var names []string
	for _, f := range y.Fields {
		names = append(names, f.Name)
	}
	for _, name := range append(slices.Clone(v.Names), v.S) {
		if len(y.Fields) > 0 && name != "" && !slices.Contains(names, name) {
			return api.ErrMissing
		}
	}
	if v.Kind == api.ValueRecord && len(v.Names) > 0 && len(y.Fields) == 0 {
		return api.ErrMissing
	}
	y.Tags = nil
	if permitted, _ := limits.Permits(y, v); !permitted {
		return api.ErrBound
	}
	for i, f := range y.Fields {
		if v.Kind == api.ValueRecord && f.Presence == api.FieldMust && !slices.Contains(v.Names, f.Name) && (i < y.Root || isAny(v.Names, partners(y, i))) {
			return api.ErrUnbound
		}
	}
	if v.Kind == api.ValueOpen && v.S != "" && !slices.ContainsFunc(o.s, func(n api.Named) bool { return n.Name == v.S }) {
		return api.ErrMissing
	}
	return api.OK
}

func hasOnly(s, name string) bool {
	spans, _ := limits.CharactersOf(name)
	return !strings.ContainsFunc(s, func(r rune) bool {
		return !slices.ContainsFunc(spans, func(x api.Span) bool { return x.Low <= int(r) && int(r) <= x.High })
	})
}

// partners returns the names of the additions that are of the group of one, or behind it.
func partners(y api.Type, index int) []string {
	var l []string
	for i, f := range y.Fields {
		switch {
		case i > index:
			l = append(l, f.Name)
		case i < index && f.Group == y.Fields[index].Group && f.Group > 0:
			l = append(l, f.Name)
		}
	}
	return l
}

func isAny(names, among []string) bool {
	return slices.ContainsFunc(names, func(name string) bool { return slices.Contains(among, name) })
}

// normal returns the normal form of a value that fits and stands so deep, unless it is too large.
func (o oracle) normal(y api.Type, v api.Value, depth int) (api.Value, bool) {
	y, _ = o.resolved(y)
	v.Items, v.Names = slices.Clone(v.Items), slices.Clone(v.Names)
	fine := depth <= api.MaxDepth
	for i := range v.Items {
		if fine {
			v.Items[i], fine = o.normal(o.typeAt(y, v, []int{i}), v.Items[i], depth+1)
		}
	}
	if fine && v.Kind == api.ValueRecord {
		v, fine = o.normalRecord(y, v, depth)
	}
	if v.Kind == api.ValueBag {
		sorted(v)
	}
	return v, fine && len(places(v, nil)) <= api.MaxValueNodes
}

// normalRecord is about a record the items of which have their normal forms.
func (o oracle) normalRecord(y api.Type, v api.Value, depth int) (api.Value, bool) {
	defaultOf := func(f api.Field) (api.Value, bool) { return o.normal(f.Type, f.Default[0], depth+1) }
	var itself []string // additions that are there not by a default
	for i, name := range v.Names {
		at := slices.IndexFunc(y.Fields, func(f api.Field) bool { return f.Name == name })
		if f := y.Fields[at]; at >= y.Root && f.Presence == api.FieldDefault {
			d, fine := defaultOf(f)
			if !fine {
				return v, false
			}
			if alike(d, v.Items[i]) {
				continue
			}
		}
		if at >= y.Root {
			itself = append(itself, name)
		}
	}
	out := record("")
	for i, f := range y.Fields {
		at := slices.Index(v.Names, f.Name)
		isThere := at >= 0
		if i >= y.Root && f.Presence == api.FieldDefault && !slices.Contains(itself, f.Name) {
			isThere = isAny(itself, partners(y, i))
		} else if i < y.Root && f.Presence == api.FieldDefault {
			isThere = true
		}
		if !isThere {
			continue
		}
		item, fine := api.Value{}, true
		if at >= 0 {
			item = v.Items[at]
		} else if item, fine = defaultOf(f); !fine {
			return v, false
		}
		out.Names, out.Items = append(out.Names, f.Name), append(out.Items, item)
	}
	return out, true
}

// defaultsError returns the error of the first default in a type that does not fit.
func (o oracle) defaultsError(y api.Type) api.Errno {
	for _, f := range y.Fields {
		for _, v := range f.Default {
			if _, e := o.fits(f.Type, v); e != api.OK {
				return e
			}
		}
	}
	for _, f := range y.Fields {
		if e := o.defaultsError(f.Type); e != api.OK {
			return e
		}
	}
	for _, of := range y.Of {
		return o.defaultsError(of)
	}
	return api.OK
}

// normalForm is what Normal must return for a value that may not fit.
func (o oracle) normalForm(y api.Type, v api.Value) (api.Value, api.Errno) {
	if _, e := o.fits(y, v); e != api.OK {
		return api.Value{}, e
	}
	for _, n := range append(slices.Clone(o.s), api.Named{Type: y}) {
		if e := o.defaultsError(n.Type); e != api.OK {
			return api.Value{}, e
		}
	}
	v, fine := o.normal(y, v, 1)
	if !fine {
		return api.Value{}, api.ErrLarge
	}
	return v, api.OK
}

// A goal is what must come in a text: it says of a token which goals stand in its own place, and whether the token is read.
type goal func(token api.Token) (instead []goal, isRead bool, e api.Errno)

// reads returns the place and the error of a text by a stack of goals, ErrNone if it is read to its end.
func (o oracle) reads(y api.Type, text string) (int, api.Errno) {
	tokens, at, e := lexis.TokensOf(api.LangAsn, text)
	if e != api.OK {
		return at, e
	}
	stack := []goal{o.value(y, 1)}
	for _, token := range tokens {
		for isRead := false; !isRead; {
			if len(stack) == 0 {
				return token.At, api.ErrSyntax
			}
			var instead []goal
			instead, isRead, e = stack[0](token)
			if e != api.OK {
				return token.At, e
			}
			stack = append(instead, stack[1:]...)
		}
	}
	if len(stack) > 0 {
		return len(text), api.ErrEnd
	}
	return 0, api.ErrNone
}

// oneOf is a goal of a token that is one of some texts, with what must come behind it.
func oneOf(texts string, behind ...goal) goal {
	return func(token api.Token) ([]goal, bool, api.Errno) {
		if !slices.Contains(strings.Fields(texts), token.Text) {
			return nil, false, api.ErrSyntax
		}
		return behind, true, api.OK
	}
}

func ofKind(kind int) goal {
	return func(token api.Token) ([]goal, bool, api.Errno) {
		if token.Kind != kind {
			return nil, false, api.ErrSyntax
		}
		return nil, true, api.OK
	}
}

// either is a goal of a token with a text, or of something else.
func either(text string, behind []goal, otherwise ...goal) goal {
	return func(token api.Token) ([]goal, bool, api.Errno) {
		if token.Text == text {
			return behind, true, api.OK
		}
		return otherwise, false, api.OK
	}
}

func aNumber() goal { return either("-", []goal{ofKind(api.TokenNumber)}, ofKind(api.TokenNumber)) }

// items is a goal of what may stand in braces behind an item that was read.
func items(item goal) goal {
	return func(token api.Token) ([]goal, bool, api.Errno) {
		return []goal{either("}", nil, oneOf(",", item, items(item)))}, false, api.OK
	}
}

func enclosed(item goal) []goal {
	return []goal{oneOf("{"), either("}", nil, item, items(item))}
}

func (o oracle) value(y api.Type, depth int) goal {
	return func(token api.Token) ([]goal, bool, api.Errno) {
		if depth > api.MaxDepth {
			return nil, false, api.ErrLarge
		}
		y, e := o.resolved(y)
		return o.goals(y, depth+1), false, e
	}
}

// goals returns what must come of a type that is no reference, within which values are so deep.
func (o oracle) goals(y api.Type, depth int) []goal {
	switch y.Kind {
	case api.TypeNull:
		return []goal{oneOf("NULL")}
	case api.TypeBool:
		return []goal{oneOf("TRUE FALSE")}
	case api.TypeInt:
		return []goal{aNumber()}
	case api.TypeEnum:
		return []goal{ofKind(api.TokenName)}
	case api.TypeBits:
		return []goal{ofKind(api.TokenBits)}
	case api.TypeOctets:
		return []goal{ofKind(api.TokenOctets)}
	case api.TypeChars:
		return []goal{ofKind(api.TokenChars)}
	case api.TypeOid:
		return []goal{oneOf("{"), o.arcs(depth)}
	case api.TypeReal:
		return []goal{oneOf("{"), oneOf("mantissa"), aNumber(), oneOf(","), oneOf("base"), oneOf("2"), oneOf(","), oneOf("exponent"), aNumber(), oneOf("}")}
	case api.TypeRecord, api.TypeSet:
		return enclosed(o.field(y, depth))
	case api.TypeList, api.TypeBag:
		return enclosed(o.value(y.Of[0], depth))
	case api.TypeUnion:
		return []goal{o.field(y, depth, oneOf(":"))}
	}
	return []goal{o.open(depth)}
}

func (o oracle) arcs(depth int) goal {
	return func(token api.Token) ([]goal, bool, api.Errno) {
		if token.Kind != api.TokenNumber {
			return []goal{oneOf("}")}, false, api.OK
		}
		return []goal{o.value(api.Type{Kind: api.TypeInt}, depth), o.arcs(depth)}, false, api.OK
	}
}

// field is a goal of a name, something between, and its value.
func (o oracle) field(y api.Type, depth int, between ...goal) goal {
	return func(token api.Token) ([]goal, bool, api.Errno) {
		for _, f := range y.Fields {
			if token.Kind == api.TokenName && token.Text == f.Name {
				return append(slices.Clone(between), o.value(f.Type, depth)), true, api.OK
			}
		}
		return nil, false, api.ErrSyntax
	}
}

func (o oracle) open(depth int) goal {
	return func(token api.Token) ([]goal, bool, api.Errno) {
		for _, n := range o.s {
			if token.Kind == api.TokenName && token.Text == n.Name {
				return []goal{oneOf(":"), o.value(ref(n.Name), depth)}, true, api.OK
			}
		}
		if token.Kind != api.TokenOctets {
			return nil, false, api.ErrSyntax
		}
		return []goal{o.value(api.Type{Kind: api.TypeOctets}, depth)}, false, api.OK
	}
}

// P5.2, P5.3: what values are found to be is what the oracle says.
func TestAgainstOracle(t *testing.T) {
	met := map[api.Errno]int{}
	for seed := range int64(2000) {
		m := newMaker(seed)
		o := oracle{m.s}
		for range 6 {
			y := m.full()
			v, ok := m.value(y, 2+m.Intn(api.MaxDepth-1))
			if !ok {
				continue
			}
			if m.one(3) {
				v = m.spoilt(v)
			}
			place, e := o.fits(y, v)
			got, gotE := values.Fits(m.s, y, v)
			wantResult(t, "Fits", got, gotE, place, e)
			normal, e := o.normalForm(y, v)
			form, gotE := values.Normal(m.s, y, v)
			wantResult(t, "Normal", form, gotE, normal, e)
			is, gotE := values.IsNormal(m.s, y, v)
			wantResult(t, "IsNormal", is, gotE, e == api.OK && alike(v, normal), e)
			met[e]++
		}
	}
	for _, e := range []api.Errno{api.OK, api.ErrLarge, api.ErrMissing, api.ErrType, api.ErrBound, api.ErrUnbound} {
		if met[e] < 5 {
			t.Errorf("error %d is met only %d times", e, met[e])
		}
	}
}

// wantReadAs checks what a text is read as: where it is wrong, or a value that fits.
func wantReadAs(t *testing.T, o oracle, y api.Type, text string) {
	t.Helper()
	at, want := o.reads(y, text)
	v, got, e := values.ParseValue(o.s, y, text)
	if want != api.ErrNone {
		wantResult(t, "ParseValue of "+text, got, e, at, want)
		return
	}
	if e == api.OK {
		_, e = o.fits(y, v)
		wantResult(t, "what is read of "+text, got, e, len(text), api.OK)
	} else if got != 0 || e == api.ErrSyntax || e == api.ErrEnd {
		t.Errorf("ParseValue of %s: place %d, error %d", text, got, e)
	}
}

// P5.5: texts in which a token is another one, or is missing, or stands there twice.
func TestSpoiltTexts(t *testing.T) {
	tokens := strings.Fields("{ } , : - 0 5 2 NULL TRUE a b c x z A D mantissa base exponent '0'B '00'H \"1\"")
	for seed := range int64(400) {
		m := newMaker(seed)
		y := m.full()
		v, ok := m.value(y, 1+m.Intn(api.MaxDepth))
		text, e := values.FormatValue(m.s, y, v)
		if !ok || e != api.OK {
			continue
		}
		parts, _, _ := lexis.TokensOf(api.LangAsn, text)
		wantReadAs(t, oracle{m.s}, y, text)
		for range 12 {
			at := m.Intn(len(parts))
			before, behind := text[:parts[at].At], text[parts[at].At+len(parts[at].Text):]
			instead := []string{"", tokens[m.Intn(len(tokens))], parts[at].Text + " " + parts[at].Text, parts[at].Text + " " + tokens[m.Intn(len(tokens))]}[m.Intn(4)]
			wantReadAs(t, oracle{m.s}, y, before+" "+instead+" "+behind)
		}
		wantReadAs(t, oracle{m.s}, y, text[:parts[m.Intn(len(parts))].At])
	}
}

// P5.5: all short texts over some tokens, as values of several types.
func TestShortTexts(t *testing.T) {
	o := oracle{schemaOf(t, "A ::= SEQUENCE {a INTEGER OPTIONAL, b A OPTIONAL}")}
	for typ, alphabet := range map[string]string{
		"A":                                  "{ } , a b 5 -",
		"SEQUENCE OF A":                      "{ } , a 5",
		"CHOICE {a INTEGER, b CHOICE {a A}}": "a b : { } 5",
		"OBJECT IDENTIFIER":                  "{ } 1 , -",
		"SET OF INTEGER":                     "{ } 1 2 , -",
		"SET {a SET OF CHOICE {b ENUMERATED {x (1)}}}": "{ } a b : x",
	} {
		shortTexts(strings.Fields(alphabet), 5, func(text string) { wantReadAs(t, o, typeOf(t, typ), text) })
	}
	shortTexts(strings.Fields("A : { } a '00'H"), 5, func(text string) { wantReadAs(t, o, api.Type{Kind: api.TypeOpen}, text) })
}

// shortTexts hands on all texts of at most so many tokens.
func shortTexts(tokens []string, most int, hand func(string)) {
	var more func(text string, left int)
	more = func(text string, left int) {
		hand(text)
		if left == 0 {
			return
		}
		for _, token := range tokens {
			more(text+" "+token, left-1)
		}
	}
	more("", most)
}
