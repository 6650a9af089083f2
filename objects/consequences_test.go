package objects_test

import (
	"fmt"
	"slices"
	"strconv"
	"strings"
	"testing"

	"examiner/api"
	"examiner/modules"
	"examiner/notation"
	"examiner/objects"
)

// rightPrograms yields random programs that can be expanded, and what they become.
func rightPrograms(seeds int64, yield func(what string, l, expanded []api.AsnModule)) {
	for seed := range seeds {
		l, isRead := readModules(newMaker(seed).program())
		if !isRead {
			continue
		}
		l = written(l)
		if expanded, e := objects.Expanded(l); e == api.OK {
			yield(fmt.Sprintf("program %d", seed), l, expanded)
		}
	}
}

// P7.5: expanded modules are a program; expanded again they stay.
func TestExpandedIsProgram(t *testing.T) {
	found := 0
	rightPrograms(2500, func(what string, l, expanded []api.AsnModule) {
		found++
		at, e := modules.CheckProgram(expanded)
		wantResult(t, what, at, e, place(0, 0), api.OK)
		wantExpanded(t, what, expanded, expanded, api.OK)
		for i, m := range expanded {
			tables, e := objects.TablesOf(expanded, i)
			wantResult(t, what, tables, e, []api.Table{}, api.OK)
			// what is there already stays in its order, what is added stands behind it
			var names, kept []string
			for _, a := range m.Items {
				names = append(names, a.Name)
			}
			for _, a := range l[i].Items {
				if a.Kind == api.ItemValue || a.Kind == api.ItemType && len(a.Params) == 0 {
					kept = append(kept, a.Name)
				}
			}
			if len(kept) > len(names) || !slices.Equal(kept, names[:len(kept)]) {
				t.Errorf("%s: items %v, those that stay are %v", what, names, kept)
			}
		}
	})
	if found < 500 {
		t.Errorf("only %d programs", found)
	}
}

// P7.6: each instance stands for another pair of a parameterized type and texts; there are at most MaxTypes in a module.
func TestInstances(t *testing.T) {
	found, most := 0, 0
	for seed := range int64(1500) {
		m := newMaker(seed)
		m.flat = true
		// of these parameterized types another text makes another type
		l, isRead := readModules([]string{"M EXPLICIT EXPORTS ALL; P{X} ::= SEQUENCE {x X, y P{NULL} OPTIONAL} Q{X, Y} ::= CHOICE {x X, y Y} B ::= INTEGER A ::= SEQUENCE {a " + m.typ(4) + ", b " + m.typ(5) + ", c " + m.typ(5) + "}"})
		if !isRead {
			continue
		}
		expanded, e := objects.Expanded(l)
		if e != api.OK {
			continue
		}
		found++
		texts := map[string]bool{}
		numbers := map[string]int{}
		count := 0
		for _, a := range expanded[0].Items {
			name, number, isInstance := strings.Cut(a.Name, "-")
			if !isInstance {
				continue
			}
			count++
			numbers[name]++
			if number != strconv.Itoa(numbers[name]) {
				t.Errorf("program %d: %s is the instance %d", seed, a.Name, numbers[name])
			}
			text, e := notation.FormatType(a.Type)
			if e != api.OK || texts[text] {
				t.Errorf("program %d: %s is there twice, error %d", seed, text, e)
			}
			texts[text] = true
		}
		most = max(most, count)
		if count > api.MaxTypes {
			t.Errorf("program %d: %d instances", seed, count)
		}
	}
	if found < 300 || most < 6 {
		t.Errorf("only %d programs, at most %d instances", found, most)
	}
}

// P7.7: TypeFor of the value that a row has is its type, if no earlier row has this value.
func TestTypesOfRows(t *testing.T) {
	types, unbound, repeated := 0, 0, 0
	rightPrograms(2500, func(what string, l, _ []api.AsnModule) {
		for i := range l {
			tables, e := objects.TablesOf(l, i)
			wantResult(t, what, 0, e, 0, api.OK)
			for j, x := range tables {
				rows, e := objects.RowsOf(l, i, x.Set)
				wantResult(t, what, 0, e, 0, api.OK)
				if x.IdField == api.None {
					continue
				}
				for k, row := range rows {
					if len(row.Values[x.IdField]) == 0 {
						continue
					}
					v := row.Values[x.IdField][0]
					first, e := objects.RowFor(rows, x.IdField, v)
					wantResult(t, what, 0, e, 0, api.OK)
					if first < k {
						repeated++
						continue
					}
					want, wantE := row.Types[x.Field], api.OK
					types++
					if want == "" {
						wantE = api.ErrUnbound
						unbound++
					}
					got, e := objects.TypeFor(l, i, j, v)
					wantResult(t, fmt.Sprintf("%s, module %d, table %d, row %d", what, i, j, k), got, e, want, wantE)
				}
			}
		}
	})
	if types < 500 || unbound < 50 {
		t.Errorf("only %d rows, %d without a type, %d with the value of an earlier one", types, unbound, repeated)
	}
}

// The names that rows have are those of types of the expanded module, and these are what the objects have.
func TestTypesOfObjects(t *testing.T) {
	const text = "M EXPLICIT P{X} ::= SET OF X C ::= CLASS {&id INTEGER UNIQUE, &Type} x C ::= {&id 1, &Type P{NULL}} y C ::= {&Type [1] REAL, &id 2} S C ::= {y | x}"
	l := programOf(t, text)
	rows, e := objects.RowsOf(l, 0, "S")
	wantResult(t, "rows", len(rows), e, 2, api.OK)
	expanded, e := objects.Expanded(l)
	wantResult(t, "expanded", len(expanded), e, 1, api.OK)
	s, e := modules.SchemaOf(expanded, 0)
	want := api.Schema{{Name: "P-1", Type: typeOf(t, "SET OF NULL")}, {Name: "Type-x", Type: typeOf(t, "P-1")}, {Name: "Type-y", Type: typeOf(t, "[1] EXPLICIT REAL")}}
	wantResult(t, "schema", s, e, want, api.OK)
	var names []string
	for _, row := range rows {
		names = append(names, row.Types[1])
	}
	wantResult(t, "names", names, api.OK, []string{"Type-y", "Type-x"}, api.OK)
}
