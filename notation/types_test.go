package notation_test

import (
	"fmt"
	"strings"
	"testing"

	"examiner/api"
	"examiner/notation"
)

// someTypes are types of each kind that are right.
func someTypes() []api.Type {
	long := strings.Repeat("a", api.MaxName)
	return []api.Type{
		null(), kind(api.TypeBool), kind(api.TypeInt), kind(api.TypeBits), kind(api.TypeOctets), kind(api.TypeOid), kind(api.TypeReal), kind(api.TypeOpen),
		stringType(api.Numeric), stringType(api.Printable), stringType(api.Visible), stringType(api.Ia5),
		ref("T"), ref("t"), ref("a_b-c"), ref("INTEGER"), ref(long), actual("T", null()), actual("T", null(), ref("T"), ref("T"), null()),
		classField("id", "C", "S"), classField("Type", "C", "S", "i"),
		fields(api.TypeEnum, item("a", 0)), fields(api.TypeEnum, item("a", api.MaxInteger), item("b", -api.MaxInteger)), opened(fields(api.TypeEnum, item("a", 1), item("b", 0)), 1), opened(fields(api.TypeEnum, item("a", 1)), 1),
		fields(api.TypeRecord), opened(fields(api.TypeRecord), 0), fields(api.TypeSet), opened(fields(api.TypeSet, field("a", null())), 0),
		fields(api.TypeRecord, field("a", null()), optional(field("b", null())), defaulted(field("c", null()), number(5))),
		opened(fields(api.TypeRecord, grouped(field("a", null()), 1), grouped(field("b", null()), 1), field("c", null()), grouped(field("d", null()), 2), grouped(field("e", null()), 3), field("f", null())), 0),
		fields(api.TypeUnion, field("a", null())), opened(fields(api.TypeUnion, field("a", null()), grouped(field("b", null()), 1)), 1),
		listOf(null()), {Kind: api.TypeBag, Of: []api.Type{ref("T")}},
		tagged(null(), api.Tag{Class: api.ClassApplication}, context(api.MaxTag, api.TagExplicit), api.Tag{Class: api.ClassPrivate, Number: 1, Way: api.TagImplicit}),
		limited(kind(api.TypeInt), span(5, 3)), limited(kind(api.TypeBits), text("2")), limited(kind(api.TypeOctets), span(0, 0), node(api.LimitSize, 0)), limited(stringType(api.Ia5), text("")), limited(ref("T"), span(1<<62, 0)), limited(listOf(null()), span(0, 0), node(api.LimitFrom, 0)),
	}
}

// P2.1: of which characters names are.
func TestNames(t *testing.T) {
	for c := range 256 {
		letter := c >= 'a' && c <= 'z' || c >= 'A' && c <= 'Z'
		within := letter || c >= '0' && c <= '9' || c == '_' || c == '-'
		for name, right := range map[string]bool{string([]byte{byte(c)}): letter, string([]byte{'a', byte(c), 'b'}): within, string([]byte{'a', byte(c)}): within && c != '-'} {
			want := api.ErrName
			if right {
				want = api.OK
			}
			wantErr(t, fmt.Sprintf("%q", name), notation.CheckType(ref(name)), want)
			wantErr(t, fmt.Sprintf("%q", name), notation.CheckForm(enum(name)), want)
		}
	}
}

func TestTypesAccepted(t *testing.T) {
	for i, y := range someTypes() {
		wantErr(t, fmt.Sprintf("type %d: %+v", i, y), notation.CheckType(y), api.OK)
		inRecord := fields(api.TypeRecord, field("x", y))
		wantErr(t, fmt.Sprintf("type %d as a field", i), notation.CheckType(inRecord), api.OK)
		wantErr(t, fmt.Sprintf("type %d in a list", i), notation.CheckType(listOf(y)), api.OK)
		wantErr(t, fmt.Sprintf("type %d as a parameter", i), notation.CheckType(actual("T", y)), api.OK)
	}
}

// wrongTypes are types with one fault, and its error.
func wrongTypes() map[string]struct {
	y    api.Type
	want api.Errno
} {
	type wrong = struct {
		y    api.Type
		want api.Errno
	}
	must := field("a", null())
	out := map[string]wrong{
		"kind below":        {kind(-1), api.ErrKind},
		"kind above":        {kind(api.TypeKinds), api.ErrKind},
		"tags":              {tagged(null(), context(0, 0), context(0, 0), context(0, 0), context(0, 0)), api.ErrLarge},
		"parameters":        {actual("T", null(), null(), null(), null(), null()), api.ErrLarge},
		"universal":         {tagged(null(), api.Tag{Number: 1}), api.ErrRange},
		"class below":       {tagged(null(), api.Tag{Class: -1}), api.ErrRange},
		"class above":       {tagged(null(), context(0, 0), api.Tag{Class: api.Classes}), api.ErrRange},
		"tag below":         {tagged(null(), context(-1, 0)), api.ErrRange},
		"tag above":         {tagged(null(), context(api.MaxTag+1, 0)), api.ErrRange},
		"way below":         {tagged(null(), context(0, -1)), api.ErrRange},
		"way above":         {tagged(null(), context(0, api.TagWays)), api.ErrRange},
		"presence below":    {fields(api.TypeRecord, api.Field{Name: "a", Presence: -1}), api.ErrRange},
		"presence above":    {fields(api.TypeRecord, api.Field{Name: "a", Presence: api.Presences}), api.ErrRange},
		"group below":       {opened(fields(api.TypeRecord, grouped(must, -1)), 0), api.ErrRange},
		"group in the root": {fields(api.TypeRecord, grouped(must, 1)), api.ErrForm},
		"group before ...":  {opened(fields(api.TypeUnion, grouped(must, 1)), 1), api.ErrForm},
		"root below":        {opened(fields(api.TypeRecord, must), -1), api.ErrRange},
		"root above":        {opened(fields(api.TypeRecord, must), 2), api.ErrRange},
		"root too small":    {api.Type{Kind: api.TypeSet, Fields: []api.Field{must}}, api.ErrForm},
		"root too great":    {api.Type{Kind: api.TypeEnum, Fields: []api.Field{item("a", 0)}, Root: 2}, api.ErrRange},
		"default unasked":   {fields(api.TypeRecord, api.Field{Name: "a", Default: []api.Value{number(1)}}), api.ErrForm},
		"optional default":  {fields(api.TypeSet, api.Field{Name: "a", Presence: api.FieldOptional, Default: []api.Value{number(1)}}), api.ErrForm},
		"number of a field": {fields(api.TypeRecord, item("a", 1)), api.ErrForm},
		"union optional":    {fields(api.TypeUnion, optional(must)), api.ErrForm},
		"union default":     {fields(api.TypeUnion, defaulted(must, number(1))), api.ErrForm},
		"union number":      {fields(api.TypeUnion, item("a", 1)), api.ErrForm},
		"enum type":         {fields(api.TypeEnum, field("a", kind(api.TypeBool))), api.ErrForm},
		"enum optional":     {fields(api.TypeEnum, optional(item("a", 1))), api.ErrForm},
		"enum default":      {fields(api.TypeEnum, defaulted(item("a", 1), number(1))), api.ErrForm},
		"enum group":        {opened(fields(api.TypeEnum, item("a", 1), grouped(item("b", 2), 1)), 1), api.ErrForm},
		"parameter name":    {api.Type{Kind: api.TypeRef, Name: "T", Fields: []api.Field{must}}, api.ErrForm},
		"parameter number":  {api.Type{Kind: api.TypeRef, Name: "T", Fields: []api.Field{{Number: 1}}}, api.ErrForm},
		"parameter group":   {api.Type{Kind: api.TypeRef, Name: "T", Fields: []api.Field{{Group: 1}}}, api.ErrForm},
		"class type":        {api.Type{Kind: api.TypeOpen, Name: "f", Fields: []api.Field{field("C", kind(api.TypeInt)), item("S", 0)}}, api.ErrForm},
		"class number":      {api.Type{Kind: api.TypeOpen, Name: "f", Fields: []api.Field{item("C", 1), item("S", 0)}}, api.ErrForm},
		"no items":          {fields(api.TypeEnum), api.ErrShape},
		"no root items":     {opened(fields(api.TypeEnum, item("a", 0)), 0), api.ErrShape},
		"no alternatives":   {fields(api.TypeUnion), api.ErrShape},
		"no root in CHOICE": {opened(fields(api.TypeUnion, must), 0), api.ErrShape},
		"no items of lists": {kind(api.TypeList), api.ErrShape},
		"two items of bags": {api.Type{Kind: api.TypeBag, Of: []api.Type{null(), null()}}, api.ErrShape},
		"no default":        {fields(api.TypeRecord, defaulted(must)), api.ErrShape},
		"two defaults":      {fields(api.TypeRecord, defaulted(must, number(1), number(1))), api.ErrShape},
		"field without set": {classField("f", "C"), api.ErrShape},
		"field alone":       {classField("f"), api.ErrShape},
		"set without field": {classField("", "C", "S"), api.ErrShape},
		"two components":    {classField("f", "C", "S", "a", "b"), api.ErrShape},
		"string type":       {stringType("UTF8String"), api.ErrName},
		"no string type":    {kind(api.TypeChars), api.ErrName},
		"no reference":      {kind(api.TypeRef), api.ErrName},
		"class name":        {classField("f", "C", "1"), api.ErrName},
		"class field name":  {classField("f-", "C", "S"), api.ErrName},
		"same names":        {fields(api.TypeRecord, must, field("b", null()), must), api.ErrDouble},
		"same alternatives": {fields(api.TypeUnion, must, must), api.ErrDouble},
		"same items":        {fields(api.TypeEnum, item("a", 1), item("a", 2)), api.ErrDouble},
		"same numbers":      {fields(api.TypeEnum, item("a", 1), item("b", 2), item("c", 1)), api.ErrDouble},
		"number above":      {fields(api.TypeEnum, item("a", api.MaxInteger+1)), api.ErrRange},
		"number below":      {fields(api.TypeEnum, item("a", 0), item("b", -api.MaxInteger-1)), api.ErrRange},
		"of a default":      {fields(api.TypeRecord, defaulted(must, api.Value{Kind: api.ValueKinds})), api.ErrKind},
	}
	for _, name := range []string{"", "1", "_a", "-a", "a-", "a--b", "a b", "é", "a.b", strings.Repeat("a", api.MaxName+1)} {
		out["field "+name] = wrong{fields(api.TypeRecord, field(name, null())), api.ErrName}
		out["item "+name] = wrong{fields(api.TypeEnum, item(name, 0)), api.ErrName}
		out["reference "+name] = wrong{ref(name), api.ErrName}
	}
	for i, groups := range [][]int{{2}, {0, 2}, {1, 3}, {1, 2, 1}, {1, 0, 1}, {2, 1}, {1, 1, 3}} {
		y := kind(api.TypeSet)
		for j, g := range groups {
			y.Fields = append(y.Fields, grouped(field(string(rune('a'+j)), null()), g))
		}
		out[fmt.Sprintf("groups %d", i)] = wrong{opened(y, 0), api.ErrOrder}
	}
	for i, l := range wrongTrees() {
		out[fmt.Sprintf("tree %d", i)] = wrong{limited(kind(api.TypeInt), l...), api.ErrShape}
	}
	return out
}

// wrongTrees are constraints that are no trees.
func wrongTrees() []api.Limits {
	return []api.Limits{
		{span(0, 0), span(1, 1)}, {node(api.LimitSize)}, {node(api.LimitSize, 0)}, {span(0, 0), node(api.LimitFrom, 1)}, {span(0, 0), node(api.LimitFrom, -1)}, {span(0, 0), node(api.LimitFrom)},
		{span(0, 0), node(api.LimitUnion, 0)}, {span(0, 0), span(1, 1), node(api.LimitUnion, 1, 0)}, {span(0, 0), span(1, 1), node(api.LimitBoth, 0, 0)}, {span(0, 0), span(1, 1), node(api.LimitWithout, 1, 1)}, {span(0, 0), span(1, 1), span(2, 2), node(api.LimitWithout, 0, 1)}, {span(0, 0), span(1, 1), span(2, 2), node(api.LimitUnion, 0, 1, 2)},
		{span(0, 0), span(1, 1), span(2, 2), node(api.LimitUnion, 0, 2), node(api.LimitUnion, 1, 3)},
		{node(api.LimitMarker)}, {span(0, 0), span(1, 1), span(2, 2), node(api.LimitMarker, 0, 1, 2)}, {span(0, 0), node(api.LimitMarker)},
		{{Kind: api.LimitKinds}}, {{Kind: -1}}, {span(0, 0), {Kind: api.LimitSize, Low: 1, Args: []int{0}}}, {span(0, 0), {Kind: api.LimitMarker, High: 1, Args: []int{0}}}, {span(0, 0), {Kind: api.LimitSize, Text: "a", Args: []int{0}}},
		{{Kind: api.LimitRange, Text: "a"}}, {{Kind: api.LimitText, Low: 1}}, {{Kind: api.LimitRange, Args: []int{0}}}, {span(0, 0), {Kind: api.LimitText, Args: []int{0}}},
		append(chain(api.LimitUnion, 10), node(api.LimitMarker, 18), node(api.LimitMarker, 19)),
	}
}

func TestTypesRefused(t *testing.T) {
	for what, x := range wrongTypes() {
		wantErr(t, what, notation.CheckType(x.y), x.want)
		wantErr(t, what+" as a field", notation.CheckType(fields(api.TypeRecord, field("x", null()), field("y", x.y))), x.want)
		wantErr(t, what+" in a list", notation.CheckType(listOf(x.y)), x.want)
		wantErr(t, what+" as a parameter", notation.CheckType(actual("T", x.y)), x.want)
	}
}

// P2.1: what a kind does not have is ErrForm.
func TestForeignPartsOfTypes(t *testing.T) {
	of := []api.Type{null()}
	one := []api.Field{field("a", null())}
	none := make([]api.Field, 1)
	parts := map[string]func(*api.Type){
		"name":   func(y *api.Type) { y.Name = "x" },
		"fields": func(y *api.Type) { y.Fields = one },
		"open":   func(y *api.Type) { y.Open = true },
		"root":   func(y *api.Type) { y.Root, y.Fields = 1, none },
		"of":     func(y *api.Type) { y.Of = of },
		"limits": func(y *api.Type) { y.Limits = api.Limits{span(0, 0)} },
	}
	has := map[int]string{
		api.TypeInt: "limits", api.TypeBits: "limits", api.TypeOctets: "limits", api.TypeChars: "name limits", api.TypeEnum: "fields open root", api.TypeRecord: "fields open root", api.TypeSet: "fields open root",
		api.TypeUnion: "fields open root", api.TypeList: "of limits", api.TypeBag: "of limits", api.TypeOpen: "name fields", api.TypeRef: "name fields limits",
	}
	right := map[int]api.Type{
		api.TypeChars: stringType(api.Ia5), api.TypeEnum: fields(api.TypeEnum, item("a", 0)), api.TypeUnion: fields(api.TypeUnion, one...), api.TypeRecord: fields(api.TypeRecord, one...), api.TypeSet: fields(api.TypeSet, one...),
		api.TypeList: listOf(null()), api.TypeBag: {Kind: api.TypeBag, Of: of}, api.TypeRef: ref("T"),
	}
	for k := range api.TypeKinds {
		for part, add := range parts {
			if strings.Contains(has[k], part) {
				continue
			}
			y, ok := right[k]
			if !ok {
				y = kind(k)
			}
			add(&y)
			wantErr(t, fmt.Sprintf("kind %d with %s", k, part), notation.CheckType(y), api.ErrForm)
		}
	}
}

// P2.1: a Root that is not from 0 to the number of fields is ErrRange, of any kind of type, and also behind what a kind does not have.
func TestRootOutOfRange(t *testing.T) {
	for k := range api.TypeKinds {
		for n := range 3 {
			for _, root := range []int{-1 << 63, -1, n + 1, 1<<63 - 1} {
				for _, open := range []bool{false, true} {
					y := api.Type{Kind: k, Fields: make([]api.Field, n), Open: open, Root: root}
					wantWithin(t, fmt.Sprintf("kind %d of %d fields with Root %d", k, n, root), y, api.ErrRange)
				}
			}
		}
	}
	foreign := api.Type{Root: 2, Name: "x", Of: []api.Type{null()}, Limits: api.Limits{span(0, 0)}, Fields: []api.Field{{Name: "a", Group: 1}}}
	wantErr(t, "Root before what NULL does not have", notation.CheckType(foreign), api.ErrRange)
	foreign.Tags = make([]api.Tag, 4)
	wantErr(t, "too many tags before Root", notation.CheckType(foreign), api.ErrLarge)
	parameters := actual("T", null(), null())
	for root, want := range []api.Errno{api.OK, api.ErrForm, api.ErrForm, api.ErrRange} {
		parameters.Root = root
		wantWithin(t, fmt.Sprintf("two parameters with Root %d", root), parameters, want)
	}
	enumerated := fields(api.TypeEnum, field("a", api.Type{Root: -1}))
	wantErr(t, "an item comes before the type that it does not have", notation.CheckType(enumerated), api.ErrForm)
}

// P2.1: additions without Open are ErrForm, behind what is ErrRange and before what is ErrShape or ErrName.
func TestAdditionsWithoutOpen(t *testing.T) {
	for _, k := range []int{api.TypeRecord, api.TypeSet, api.TypeUnion, api.TypeEnum} {
		for root := range 3 {
			y := api.Type{Kind: k, Fields: []api.Field{item("a", 0), item("b", 0), item("b", 0)}, Root: root}
			wantWithin(t, fmt.Sprintf("kind %d, three fields, Root %d", k, root), y, api.ErrForm)
			y.Tags = []api.Tag{context(-1, 0)}
			wantWithin(t, fmt.Sprintf("kind %d, Root %d, a tag below 0", k, root), y, api.ErrRange)
		}
		y := fields(k, field("a", null()))
		wantWithin(t, fmt.Sprintf("kind %d without additions", k), y, api.OK)
		wantWithin(t, fmt.Sprintf("kind %d with Open", k), opened(fields(k, item("a", 0), item("?", 0)), 1), api.ErrName)
	}
	for _, k := range []int{api.TypeUnion, api.TypeEnum} {
		wantWithin(t, fmt.Sprintf("kind %d without fields", k), kind(k), api.ErrShape)
	}
}

// wantWithin checks what is told of a type, by itself and within a type, a schema and a module.
func wantWithin(t *testing.T, what string, y api.Type, want api.Errno) {
	t.Helper()
	wantErr(t, what, notation.CheckType(y), want)
	wantErr(t, what+" in a list", notation.CheckType(listOf(y)), want)
	wantErr(t, what+" as a field", notation.CheckType(fields(api.TypeRecord, field("x", null()), field("y", y))), want)
	wantErr(t, what+" as a parameter", notation.CheckType(actual("T", y)), want)
	_, e := notation.FormatType(y)
	wantErr(t, what+" in a text", e, want)
	for i := range 2 {
		m := largeModule()
		if i == 0 {
			m.Items[itemT].Type = y
		} else {
			m.Items[itemC].Class[0].Fixed[0] = y
		}
		_, e = notation.CheckModule(m)
		wantErr(t, what+" in a module", e, want)
	}
	if want == api.OK || want == api.ErrForm { // a schema has other types that are ErrForm
		return
	}
	at, e := notation.CheckTypes(api.Schema{{Name: "A"}, {Name: "B", Type: listOf(y)}})
	if at != 1 || e != want {
		t.Errorf("%s in a schema: place %d, error %d, want %d", what, at, e, want)
	}
	_, e = notation.Resolved(nil, y)
	wantErr(t, what+" resolved", e, want)
}

// P2.1: of several errors of one type the one that is listed first is told.
func TestOrderOfTypeErrors(t *testing.T) {
	base := func() api.Type {
		return opened(fields(api.TypeRecord, field("a", null()), field("b", null()), field("c", null()), field("d", null())), 1)
	}
	faults := []struct {
		e   api.Errno
		add func(*api.Type)
	}{
		{api.ErrLarge, func(y *api.Type) { y.Tags = []api.Tag{context(0, 0), context(0, 0), context(0, 0), context(0, 0)} }},
		{api.ErrRange, func(y *api.Type) { y.Fields[3].Presence = api.Presences }},
		{api.ErrForm, func(y *api.Type) { y.Name = "x" }},
		{api.ErrShape, func(y *api.Type) { y.Fields[2].Presence = api.FieldDefault }},
		{api.ErrName, func(y *api.Type) { y.Fields[1].Name = "?" }},
		{api.ErrDouble, func(y *api.Type) { y.Fields[2].Name = y.Fields[0].Name }},
		{api.ErrOrder, func(y *api.Type) { y.Fields[3].Group = 2 }},
		{api.ErrKind, func(y *api.Type) { y.Fields[0].Type.Kind = -1 }},
	}
	for i, first := range faults {
		for _, second := range faults[i:] {
			y := base()
			second.add(&y)
			first.add(&y)
			wantErr(t, fmt.Sprintf("%d before %d", first.e, second.e), notation.CheckType(y), first.e)
		}
	}
	last := fields(api.TypeEnum, item("a", api.MaxInteger+1), item("a", 0))
	wantErr(t, "the names of items before their numbers", notation.CheckType(last), api.ErrDouble)
	notThere := api.Type{Kind: -1, Name: "x", Root: 1, Tags: make([]api.Tag, 4)}
	wantErr(t, "the kind before all", notation.CheckType(notThere), api.ErrKind)
	notThere.Of = []api.Type{deepList(api.MaxDepth + 1)}
	wantErr(t, "the size before the kind", notation.CheckType(notThere), api.ErrLarge)
	inOrder := []api.Type{kind(-1), tagged(null(), context(-1, 0)), listOf(kind(-1)), ref("?"), kind(api.TypeList)}
	want := []api.Errno{api.ErrKind, api.ErrRange, api.ErrKind, api.ErrName, api.ErrShape}
	for i := range inOrder {
		y := fields(api.TypeRecord, field("x", null()))
		for j, z := range inOrder[i:] {
			y.Fields = append(y.Fields, field(string(rune('a'+j)), z))
		}
		y.Root = len(y.Fields)
		wantErr(t, fmt.Sprintf("the first of %d fields", len(y.Fields)), notation.CheckType(y), want[i])
	}
}

// P2.1: a type comes before what is within it, and the type of a field before its default, this before the next field.
func TestOrderOfTypesWithin(t *testing.T) {
	wrongDefault := api.Value{Kind: api.ValueBool, N: 2}
	for _, x := range []struct {
		y    api.Type
		want api.Errno
	}{
		{fields(api.TypeRecord, defaulted(field("a", ref("?")), wrongDefault)), api.ErrName},
		{fields(api.TypeRecord, defaulted(field("a", null()), wrongDefault), field("b", ref("?"))), api.ErrRange},
		{fields(api.TypeRecord, field("b", ref("?")), defaulted(field("a", null()), wrongDefault)), api.ErrName},
		{fields(api.TypeRecord, defaulted(field("a", null()), wrongDefault), field("?", null())), api.ErrName},
		{fields(api.TypeRecord, field("a", listOf(kind(api.TypeKinds))), field("b", ref("?"))), api.ErrKind},
		{fields(api.TypeRecord, field("a", fields(api.TypeSet, field("b", listOf(kind(-1))))), field("b", kind(api.TypeUnion))), api.ErrKind},
	} {
		wantErr(t, fmt.Sprintf("%+v", x.y), notation.CheckType(x.y), x.want)
	}
}

// wide returns a record with so many fields of type NULL.
func wide(n int) api.Type {
	y := fields(api.TypeRecord)
	for i := range n {
		y.Fields = append(y.Fields, field(fmt.Sprintf("f%d", i), null()))
	}
	y.Root = n
	return y
}

// P2.1: the limits of types, at the limit and beyond it.
func TestLimitsOfTypes(t *testing.T) {
	nodes := func(last int) api.Type {
		return fields(api.TypeSet, field("a", wide(16)), field("b", wide(16)), field("c", wide(16)), field("d", wide(last)))
	}
	counted := func(n int) api.Type {
		y := nodes(6)
		y.Fields[3] = defaulted(y.Fields[3], list(make([]api.Value, n)...))
		return y
	}
	twenty := append(chain(api.LimitUnion, 10), node(api.LimitMarker, 18))
	for _, x := range []struct {
		what string
		y    api.Type
		want api.Errno
	}{
		{"9 deep", deepList(api.MaxDepth + 1), api.OK}, {"10 deep", deepList(api.MaxDepth + 2), api.ErrLarge},
		{"60 types", nodes(7), api.OK}, {"61 types", nodes(8), api.ErrLarge},
		{"60 with values", counted(0), api.OK}, {"61 with values", counted(1), api.ErrLarge},
		{"a default 9 deep", fields(api.TypeRecord, defaulted(field("a", null()), deepValue(api.MaxDepth))), api.OK},
		{"a default 10 deep", fields(api.TypeRecord, defaulted(field("a", null()), deepValue(api.MaxDepth+1))), api.ErrLarge},
		{"a default deep within", listOf(fields(api.TypeRecord, defaulted(field("a", null()), deepValue(api.MaxDepth)))), api.ErrLarge},
		{"16 fields", wide(api.MaxFields), api.OK}, {"17 fields", wide(api.MaxFields + 1), api.ErrLarge},
		{"17 fields of a kind without", api.Type{Fields: make([]api.Field, api.MaxFields+1)}, api.ErrLarge},
		{"16 fields of a kind without", api.Type{Fields: make([]api.Field, api.MaxFields)}, api.ErrForm},
		{"20 nodes", limited(kind(api.TypeInt), twenty...), api.OK},
	} {
		wantErr(t, x.what, notation.CheckType(x.y), x.want)
	}
}
