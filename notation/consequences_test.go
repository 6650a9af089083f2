package notation_test

import (
	"math/rand"
	"strings"
	"testing"

	"examiner/api"
	"examiner/lexis"
	"examiner/notation"
)

// wantTypeBack is P2.6 and P2.8 of a type; texts are those that were written before.
func wantTypeBack(t *testing.T, y api.Type, texts map[string]api.Type) {
	t.Helper()
	s, e := notation.FormatType(y)
	if e == api.ErrLarge {
		return
	}
	back, n, e2 := notation.ParseType(s)
	if e != api.OK || e2 != api.OK || n != len(s) || !alike(back, y) {
		t.Errorf("%+v: written %q, %d, read %+v, %d", y, s, e, back, e2)
	}
	if other, ok := texts[s]; ok && !alike(other, y) {
		t.Errorf("%q is the text of %+v and of %+v", s, other, y)
	}
	texts[s] = y
}

// P2.6, P2.8: types.
func TestTypesComeBack(t *testing.T) {
	texts := map[string]api.Type{}
	for _, y := range typeTexts() {
		wantTypeBack(t, y, texts)
	}
	m := maker{rand.New(rand.NewSource(1))}
	for n := range 6000 {
		wantTypeBack(t, m.typ(1+n%4, false), texts)
	}
	if len(texts) < 3000 {
		t.Errorf("only %d texts", len(texts))
	}
}

// P2.6, P2.8: plain values.
func TestPlainValuesComeBack(t *testing.T) {
	texts := map[string]api.Value{}
	m := maker{rand.New(rand.NewSource(2))}
	for n := range 20000 {
		v := m.value(1 + n%4)
		s, e := notation.FormatPlain(v)
		if e == api.ErrLarge {
			continue
		}
		back, length, e2 := notation.ParsePlain(s)
		if e != api.OK || e2 != api.OK || length != len(s) || !alike(back, v) {
			t.Errorf("%+v: written %q, %d, read %+v, %d", v, s, e, back, e2)
		}
		if other, ok := texts[s]; ok && !alike(other, v) {
			t.Errorf("%q is the text of %+v and of %+v", s, other, v)
		}
		texts[s] = v
	}
	if len(texts) < 5000 {
		t.Errorf("only %d texts", len(texts))
	}
}

// P2.6: modules.
func TestModulesComeBack(t *testing.T) {
	m := maker{rand.New(rand.NewSource(3))}
	written := 0
	for range 1500 {
		a := m.module()
		s, e := notation.FormatModule(a)
		if e == api.ErrLarge {
			continue
		}
		written++
		back, n, e2 := notation.ParseModule(s)
		if e != api.OK || e2 != api.OK || n != len(s) || !alike(back, a) {
			t.Errorf("%+v: written %q, %d, read %+v, %d", a, s, e, back, e2)
		}
	}
	if written < 1000 {
		t.Errorf("only %d modules were written", written)
	}
}

// P2.8: all constraints of four numbers with three operators have texts of their own.
func TestConstraintsHaveTextsOfTheirOwn(t *testing.T) {
	texts := map[string]api.Type{}
	var trees func(from, to int) []api.Limits
	trees = func(from, to int) []api.Limits {
		if to-from == 1 {
			return []api.Limits{{span(from, from)}}
		}
		var out []api.Limits
		for middle := from + 1; middle < to; middle++ {
			for _, first := range trees(from, middle) {
				for _, second := range trees(middle, to) {
					for _, k := range []int{api.LimitUnion, api.LimitBoth, api.LimitWithout} {
						out = append(out, joined(k, first, second))
					}
				}
			}
		}
		return out
	}
	for _, l := range trees(0, 4) {
		wantTypeBack(t, limited(kind(api.TypeInt), l...), texts)
	}
	if len(texts) != 5*27 {
		t.Errorf("%d texts, want %d", len(texts), 5*27)
	}
}

// joined returns two constraints as the operands of a node.
func joined(kind int, first, second api.Limits) api.Limits {
	l := append(api.Limits{}, first...)
	for _, n := range second {
		moved := n
		moved.Args = nil
		for _, a := range n.Args {
			moved.Args = append(moved.Args, a+len(first))
		}
		l = append(l, moved)
	}
	return append(l, node(kind, len(first)-1, len(l)-1))
}

// P2.7: what Resolved returns is no reference, and stays.
func TestResolvedStays(t *testing.T) {
	m := maker{rand.New(rand.NewSource(4))}
	followed := 0
	for range 5000 {
		var s api.Schema
		for _, name := range []string{"A", "B", "T-1", "U"} {
			y := m.typ(1+m.Intn(2), true)
			if m.Intn(3) == 0 {
				y = tagged(limited(ref(m.capital()), m.limits(api.TypeRef)...), m.tags()...)
			}
			s = append(s, api.Named{Name: name, Type: y})
		}
		y := tagged(limited(ref(m.capital()), m.limits(api.TypeRef)...), m.tags()...)
		resolved, e := notation.Resolved(s, y)
		if e != api.OK {
			continue
		}
		followed++
		if resolved.Kind == api.TypeRef {
			t.Errorf("%+v in %+v: a reference %+v", y, s, resolved)
		}
		again, e := notation.Resolved(s, resolved)
		if want := notation.CheckType(resolved); e != want || e == api.OK && !alike(again, resolved) {
			t.Errorf("%+v: resolved again %+v, %d, want %d", resolved, again, e, want)
		}
	}
	if followed < 1000 {
		t.Errorf("only %d references were followed", followed)
	}
}

// mutated returns a text with some tokens that are left out, doubled, exchanged or other ones.
func mutated(r *rand.Rand, s string, pool []string) string {
	tokens, _, _ := lexis.TokensOf(api.LangAsn, s)
	var l []string
	for _, k := range tokens {
		l = append(l, k.Text)
	}
	for range 1 + r.Intn(2) {
		i, j := r.Intn(len(l)), r.Intn(len(l))
		switch r.Intn(4) {
		case 0:
			l[i] = ""
		case 1:
			l[i] += " " + l[j]
		case 2:
			l[i], l[j] = l[j], l[i]
		default:
			l[i] = pool[r.Intn(len(pool))]
		}
	}
	return strings.Join(l, " ")
}

// tokenPool are tokens of all kinds.
func tokenPool() []string {
	words, _ := lexis.WordsOf(api.LangAsn)
	symbols, _ := lexis.SymbolsOf(api.LangAsn)
	return append(append(words, symbols...), "a", "b", "mantissa", "T", "A", "0", "1", "2", "'01'B", "'AB'H", `"a"`, `"ab"`, `""`)
}

// P2.5, P2.6: texts with wrong tokens have their place; what is read nevertheless has a text, and comes back.
func TestMutatedTexts(t *testing.T) {
	m := maker{rand.New(rand.NewSource(5))}
	pool := tokenPool()
	for n := range 20000 {
		y := m.typ(1+n%4, false)
		s, e := notation.FormatType(y)
		if e != api.OK {
			continue
		}
		s = mutated(m.Rand, s, pool)
		wantGoodBeginning(t, readType, s)
		if y, _, e := notation.ParseType(s); e == api.OK {
			wantTypeBack(t, y, map[string]api.Type{})
		}
	}
	for n := range 20000 {
		s, e := notation.FormatPlain(m.value(1 + n%4))
		if e != api.OK {
			continue
		}
		s = mutated(m.Rand, s, pool)
		wantGoodBeginning(t, readPlain, s)
		if v, _, e := notation.ParsePlain(s); e == api.OK {
			text, e := notation.FormatPlain(v)
			if e != api.OK || !alike(plainOf(t, text), v) {
				t.Errorf("%q: %+v, written %q, %d", s, v, text, e)
			}
		}
	}
	for range 2000 {
		s, e := notation.FormatModule(m.module())
		if e != api.OK {
			continue
		}
		s = mutated(m.Rand, s, pool)
		wantGoodBeginning(t, readModule, s)
		if a, _, e := notation.ParseModule(s); e == api.OK {
			text, e := notation.FormatModule(a)
			if e != api.OK || !alike(moduleOf(t, text), a) {
				t.Errorf("%q: %+v, written %q, %d", s, a, text, e)
			}
		}
	}
}

// P2.5: a text that ends too early goes on by some token: if none can follow, a token before it is the wrong one.
func TestTextsThatEndGoOn(t *testing.T) {
	for what, x := range map[string]struct {
		read   reading
		before string
		pool   string
		length int
	}{
		"types":        {readType, "", "SEQUENCE OF CHOICE { } a T , ... [[ ]] NULL OPTIONAL DEFAULT [ ] 1 . & ( ) @", 5},
		"enumerations": {readType, "ENUMERATED {", "a A ( ) - 1 , ... [[ }", 14},
		"constraints":  {readType, "IA5String (", `( ) 1 - .. MIN "a" "ab" SIZE FROM | ^ EXCEPT , ...`, 5},
		"alphabets":    {readType, "BIT STRING (FROM (", `( ) 1 .. "a" "ab" '1'B | EXCEPT , ...`, 6},
		"values":       {readPlain, "", `{ } a T mantissa base : , - 1 2 NULL "a"`, 5},
		"reals":        {readPlain, "{mantissa 5, base", "2 3 a , exponent x } : {", 6},
		"items":        {readModule, "M DEFINITIONS EXPLICIT TAGS ::= BEGIN EXPORTS; ", "END a T ::= { } & CLASS , : | ... NULL 1", 6},
		"heads":        {readModule, "M DEFINITIONS EXPLICIT TAGS ::= BEGIN", "EXPORTS ALL IMPORTS a B FROM , ; ::= : { END", 7},
	} {
		if ended := wantGoingOn(t, x.read, x.before, strings.Fields(x.pool), x.length); ended < 100 {
			t.Errorf("%s: only %d texts end too early", what, ended)
		}
	}
}

// wantGoingOn looks at a text, and at those with so many more tokens of a pool, and returns how many of them end too early.
func wantGoingOn(t *testing.T, read reading, s string, pool []string, length int) int {
	t.Helper()
	ended := 0
	goesOn := false
	for _, token := range pool {
		longer := s + " " + token
		if at, e := read(longer); e == api.ErrSyntax && at == len(s)+1 {
			continue
		}
		goesOn = true
		if length > 0 {
			ended += wantGoingOn(t, read, longer, pool, length-1)
		}
	}
	at, e := read(s)
	if e == api.ErrSyntax {
		t.Errorf("%q: error at %d, which is not the last token", s, at)
	}
	if e == api.ErrEnd {
		ended++
		if at != len(s) || !goesOn {
			t.Errorf("%q ends at %d, and goes on: %t", s, at, goesOn)
		}
	}
	return ended
}
