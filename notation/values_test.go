package notation_test

import (
	"fmt"
	"strings"
	"testing"

	"examiner/api"
	"examiner/notation"
)

// someValues are values of each kind that are right.
func someValues() []api.Value {
	long := strings.Repeat("1", api.MaxString)
	return []api.Value{
		{}, truth(0), truth(1), number(0), number(api.MaxInteger), number(-api.MaxInteger), enum("a"), enum("A"), enum("a_b-c"), enum(strings.Repeat("a", api.MaxName)),
		bits(""), bits("0110"), bits(long), octets(""), octets("\x00\xff"), octets(long), chars(""), chars("\x00\x7f"), chars(long),
		oid(0, 0), oid(0, 39), oid(1, 39), oid(2, 40), oid(2, api.MaxInteger, 0, api.MaxInteger), oid(make([]int, api.MaxItems)...),
		real(0, 0), real(1, 1000), real(-1, -1000), real(api.MaxInteger-1, 0), real(-api.MaxInteger+1, 3),
		record(""), record("a", number(1)), record("b a", number(1), list()), wideRecord(api.MaxFields),
		list(), list(make([]api.Value, api.MaxItems)...), list(number(2), number(1), truth(0)), items(api.ValueBag), items(api.ValueBag, make([]api.Value, api.MaxItems)...),
		union("a", number(1)), open("T", number(1)), open("", octets("\x01")), {Kind: api.ValueVerdict}, {Kind: api.ValueVerdict, N: api.VerdictError},
	}
}

// wideRecord returns a record with so many fields.
func wideRecord(n int) api.Value {
	v := record("")
	for i := range n {
		v.Names = append(v.Names, fmt.Sprintf("f%d", i))
		v.Items = append(v.Items, number(i))
	}
	return v
}

func TestValuesAccepted(t *testing.T) {
	for i, v := range someValues() {
		wantErr(t, fmt.Sprintf("value %d: %+v", i, v), notation.CheckForm(v), api.OK)
		wantErr(t, fmt.Sprintf("value %d in a list", i), notation.CheckForm(list(v)), api.OK)
		wantErr(t, fmt.Sprintf("value %d as a field", i), notation.CheckForm(record("a b", number(1), v)), api.OK)
	}
}

// wrongValues are values with one fault, and its error.
func wrongValues() map[string]struct {
	v    api.Value
	want api.Errno
} {
	type wrong = struct {
		v    api.Value
		want api.Errno
	}
	long := strings.Repeat("1", api.MaxString+1)
	out := map[string]wrong{
		"kind below":         {api.Value{Kind: -1}, api.ErrKind},
		"kind above":         {api.Value{Kind: api.ValueKinds}, api.ErrKind},
		"Boolean 2":          {truth(2), api.ErrRange},
		"Boolean -1":         {truth(-1), api.ErrRange},
		"number above":       {number(api.MaxInteger + 1), api.ErrRange},
		"number below":       {number(-api.MaxInteger - 1), api.ErrRange},
		"least number":       {number(-1 << 63), api.ErrRange},
		"even real":          {real(2, 0), api.ErrRange},
		"even real below":    {real(-4, 0), api.ErrRange},
		"real 0 with E":      {real(0, 1), api.ErrRange},
		"exponent above":     {real(1, 1001), api.ErrRange},
		"exponent below":     {real(1, -1001), api.ErrRange},
		"mantissa above":     {real(api.MaxInteger+1, 0), api.ErrRange},
		"mantissa below":     {real(-api.MaxInteger-1, 0), api.ErrRange},
		"verdict above":      {api.Value{Kind: api.ValueVerdict, N: api.Verdicts}, api.ErrRange},
		"verdict below":      {api.Value{Kind: api.ValueVerdict, N: -1}, api.ErrRange},
		"first arc":          {oid(3, 0), api.ErrRange},
		"second arc of 0":    {oid(0, 40), api.ErrRange},
		"second arc of 1":    {oid(1, 40), api.ErrRange},
		"arc below":          {oid(2, 0, -1), api.ErrRange},
		"second arc below":   {oid(2, -1), api.ErrRange},
		"arc above":          {oid(2, 1, api.MaxInteger+1), api.ErrRange},
		"long bits":          {bits(long), api.ErrLarge},
		"long octets":        {octets(long), api.ErrLarge},
		"long characters":    {chars(long), api.ErrLarge},
		"arcs":               {oid(make([]int, api.MaxItems+1)...), api.ErrLarge},
		"fields":             {wideRecord(api.MaxFields + 1), api.ErrLarge},
		"items":              {list(make([]api.Value, api.MaxItems+1)...), api.ErrLarge},
		"items of a bag":     {items(api.ValueBag, make([]api.Value, api.MaxItems+1)...), api.ErrLarge},
		"one arc":            {oid(1), api.ErrShape},
		"no arc":             {oid(), api.ErrShape},
		"arc of a kind":      {items(api.ValueOid, number(1), truth(1)), api.ErrShape},
		"first of a kind":    {items(api.ValueOid, truth(1), number(50)), api.ErrShape},
		"more names":         {record("a b", number(1)), api.ErrShape},
		"more items":         {record("a", number(1), number(2)), api.ErrShape},
		"no name":            {record("", number(1)), api.ErrShape},
		"no alternative":     {api.Value{Kind: api.ValueUnion}, api.ErrShape},
		"two alternatives":   {api.Value{Kind: api.ValueUnion, Names: []string{"a", "b"}, Items: []api.Value{{}, {}}}, api.ErrShape},
		"alternative alone":  {api.Value{Kind: api.ValueUnion, Names: []string{"a"}}, api.ErrShape},
		"nothing open":       {api.Value{Kind: api.ValueOpen}, api.ErrShape},
		"type alone":         {api.Value{Kind: api.ValueOpen, S: "T"}, api.ErrShape},
		"two in a type":      {api.Value{Kind: api.ValueOpen, S: "T", Items: []api.Value{{}, {}}}, api.ErrShape},
		"open without name":  {open("", number(1)), api.ErrShape},
		"open two octets":    {items(api.ValueOpen, octets("a"), octets("b")), api.ErrShape},
		"bit 2":              {bits("012"), api.ErrType},
		"bit a":              {bits("0a1"), api.ErrType},
		"character 128":      {chars("a\x80"), api.ErrType},
		"same names":         {record("a b a", number(1), number(2), number(3)), api.ErrDouble},
		"bag by number":      {items(api.ValueBag, number(2), number(1)), api.ErrOrder},
		"bag by kind":        {items(api.ValueBag, number(0), truth(1)), api.ErrOrder},
		"bag by exponent":    {items(api.ValueBag, real(1, 2), real(1, 1)), api.ErrOrder},
		"bag by mantissa":    {items(api.ValueBag, real(3, 1), real(1, 2)), api.ErrOrder},
		"bag by string":      {items(api.ValueBag, chars("b"), chars("ab")), api.ErrOrder},
		"bag by length":      {items(api.ValueBag, chars("ab"), chars("a")), api.ErrOrder},
		"bag by octets":      {items(api.ValueBag, octets("\xff"), octets("\x00")), api.ErrOrder},
		"bag by names":       {items(api.ValueBag, record("b", number(1)), record("a", number(2))), api.ErrOrder},
		"bag by more names":  {items(api.ValueBag, record("a b", number(1), number(1)), record("a", number(2))), api.ErrOrder},
		"bag by items":       {items(api.ValueBag, list(number(1), number(2)), list(number(1), number(1), number(9))), api.ErrOrder},
		"bag by more items":  {items(api.ValueBag, list(number(1), number(1)), list(number(1))), api.ErrOrder},
		"bag with three":     {items(api.ValueBag, number(1), number(3), number(2)), api.ErrOrder},
		"bag by items' item": {items(api.ValueBag, list(list(number(1))), list(list(number(0)))), api.ErrOrder},
	}
	for _, name := range []string{"", "1", "-a", "a-", "a--b", "a b", "é", strings.Repeat("a", api.MaxName+1)} {
		out["item "+name] = wrong{enum(name), api.ErrName}
		out["alternative "+name] = wrong{union(name, number(1)), api.ErrName}
		out["field "+name] = wrong{api.Value{Kind: api.ValueRecord, Names: []string{"a", name}, Items: []api.Value{{}, {}}}, api.ErrName}
		if name != "" {
			out["type "+name] = wrong{open(name, number(1)), api.ErrName}
		}
	}
	return out
}

func TestValuesRefused(t *testing.T) {
	for what, x := range wrongValues() {
		wantErr(t, what, notation.CheckForm(x.v), x.want)
		wantErr(t, what+" in a list", notation.CheckForm(list(number(1), x.v)), x.want)
		wantErr(t, what+" as a field", notation.CheckForm(record("a", x.v)), x.want)
		wantErr(t, what+" in a union", notation.CheckForm(union("a", x.v)), x.want)
	}
}

// P2.1: bags ascend, and have the same item more than once.
func TestBags(t *testing.T) {
	for _, l := range [][]api.Value{
		{number(1), number(3), number(3)}, {{}, truth(0), number(-5), number(-5)}, {chars("a"), chars("ab"), chars("b")}, {octets("\x7f"), octets("\x80")}, {real(-1, 0), real(1, -1), real(1, 5)},
		{record(""), record("a", number(9)), record("a b", number(1), number(1)), record("b", number(0))}, {list(), list(number(1)), list(number(1), number(0)), list(number(2))},
	} {
		wantErr(t, fmt.Sprint(l), notation.CheckForm(items(api.ValueBag, l...)), api.OK)
	}
}

// P2.1: what a kind does not have is ErrForm.
func TestForeignPartsOfValues(t *testing.T) {
	parts := map[string]func(*api.Value){
		"N":     func(v *api.Value) { v.N = 1 },
		"E":     func(v *api.Value) { v.E = 1 },
		"S":     func(v *api.Value) { v.S = "a" },
		"names": func(v *api.Value) { v.Names = []string{"a"} },
		"items": func(v *api.Value) { v.Items = []api.Value{octets("")} },
	}
	has := [api.ValueKinds]string{
		api.ValueBool: "N", api.ValueInt: "N", api.ValueEnum: "S", api.ValueBits: "S", api.ValueOctets: "S", api.ValueChars: "S", api.ValueOid: "items", api.ValueReal: "N E",
		api.ValueRecord: "names items", api.ValueList: "items", api.ValueBag: "items", api.ValueUnion: "names items", api.ValueOpen: "S items", api.ValueVerdict: "N",
	}
	for k := range api.ValueKinds {
		for part, add := range parts {
			v := api.Value{Kind: k}
			add(&v)
			e := notation.CheckForm(v)
			if isForm := e == api.ErrForm; isForm == strings.Contains(has[k], part) {
				t.Errorf("kind %d with %s: error %d", k, part, e)
			}
		}
	}
}

// P2.1: of several errors of one value the one that is listed first is told, and a value comes before its items.
func TestOrderOfValueErrors(t *testing.T) {
	long := strings.Repeat("x", api.MaxString+1)
	for what, x := range map[string]struct {
		v    api.Value
		want api.Errno
	}{
		"kind before form":         {api.Value{Kind: -1, N: 1, S: "x"}, api.ErrKind},
		"form before range":        {api.Value{Kind: api.ValueBool, N: 2, S: "x"}, api.ErrForm},
		"range before large":       {oid(append([]int{3}, make([]int, api.MaxItems)...)...), api.ErrRange},
		"range before shape":       {oid(3), api.ErrRange},
		"range before kinds":       {items(api.ValueOid, number(5), truth(0)), api.ErrRange},
		"large before shape":       {items(api.ValueOid, make([]api.Value, api.MaxItems+1)...), api.ErrLarge},
		"large before characters":  {bits(long), api.ErrLarge},
		"large of a record":        {api.Value{Kind: api.ValueRecord, Names: []string{"?"}, Items: make([]api.Value, api.MaxFields+1)}, api.ErrLarge},
		"shape before name":        {record("?"), api.ErrShape},
		"shape before double":      {record("a a", number(1)), api.ErrShape},
		"name before double":       {record("a a ?", number(1), number(2), number(3)), api.ErrName},
		"large before order":       {items(api.ValueBag, append(make([]api.Value, api.MaxItems), truth(0), api.Value{})...), api.ErrLarge},
		"order before items":       {items(api.ValueBag, number(1), truth(5)), api.ErrOrder},
		"itself before its items":  {record("a a", truth(2), number(1)), api.ErrDouble},
		"items in their order":     {list(list(truth(2)), enum("?")), api.ErrRange},
		"items in another order":   {list(enum("?"), list(truth(2))), api.ErrName},
		"size before kind":         {api.Value{Kind: -1, Items: []api.Value{deepValue(api.MaxDepth)}}, api.ErrLarge},
		"size before the contents": {list(truth(2), deepValue(api.MaxDepth)), api.ErrLarge},
	} {
		wantErr(t, what, notation.CheckForm(x.v), x.want)
	}
}

// P2.1: the limits of values, at the limit and beyond it.
func TestLimitsOfValues(t *testing.T) {
	nodes := func(last int) api.Value {
		return list(list(make([]api.Value, api.MaxItems)...), list(make([]api.Value, api.MaxItems)...), list(make([]api.Value, last)...))
	}
	for _, x := range []struct {
		what string
		v    api.Value
		want api.Errno
	}{
		{"8 deep", deepValue(api.MaxDepth), api.OK}, {"9 deep", deepValue(api.MaxDepth + 1), api.ErrLarge},
		{"120 values", nodes(36), api.OK}, {"121 values", nodes(37), api.ErrLarge},
	} {
		wantErr(t, x.what, notation.CheckForm(x.v), x.want)
	}
}
