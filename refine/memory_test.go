package refine_test

import (
	"slices"
	"testing"

	"synthesis/api"
	"synthesis/grammar"
	"synthesis/refine"
	"synthesis/spacetest"
	"synthesis/statetest"
	"synthesis/term"
	"synthesis/value"
)

// valueCells returns the addresses of all elements of slices behind values, up to their capacities.
func valueCells(list []api.Value) []any {
	var found []any
	all := list[:cap(list)]
	for i := range all {
		found = append(append(found, &all[i]), valueCells(all[i].Items)...)
	}
	return found
}

// outcomeCells returns the addresses of all elements of slices behind outcomes, up to their capacities.
func outcomeCells(list []api.Outcome) []any {
	var found []any
	all := list[:cap(list)]
	for i := range all {
		found = append(append(found, &all[i]), valueCells(all[i].Value.Items)...)
	}
	return found
}

// A memory has the cells of slices that belong to arguments or results.
type memory map[any]bool

// add adds cells, and reports whether all of them are new.
func (m memory) add(cells []any) bool {
	areNew := true
	for _, cell := range cells {
		areNew = areNew && !m[cell]
		m[cell] = true
	}
	return areNew
}

// DOC.md, rule 5: results share no memory with arguments or with each other, and arguments stay as they are.
func TestMemory(t *testing.T) {
	var d spacetest.Dice
	m := memory{}
	results := 0
	check := func(cells []any) {
		t.Helper()
		if results += len(cells); !m.add(cells) {
			t.Fatal("a result shares memory")
		}
	}
	for n, x := range samples(&d, 6) {
		if n%6 == 0 {
			for _, r := range x.l.Rules {
				m.add(valueCells(r.Const.Items))
			}
			for _, tuple := range x.tuples {
				m.add(valueCells(tuple))
			}
		}
		m.add(spacetest.Cells(x.s))
		before, list := spacetest.Copied(x.s), x.programs.Sorted()
		list = list[:len(list)/2]
		e := x.example(&d)
		p := api.Spec{Formula: always(), Domain: axes(len(x.l.Inputs), [][]api.Value{e.Inputs})}
		for range 2 {
			s, _ := refine.Example(x.l, x.s, e)
			check(spacetest.Cells(s))
			s, _ = refine.Require(x.l, x.s, p)
			check(spacetest.Cells(s))
			s, _ = refine.Forbid(x.l, x.s, list)
			check(spacetest.Cells(s))
			found, _ := refine.Outcomes(x.l, x.s, e.Inputs)
			check(outcomeCells(found))
		}
		isSame := func(a, b api.Term) bool { return term.Compare(a, b) == 0 }
		if !spacetest.Equal(x.s, before) || !slices.EqualFunc(list, x.programs.Sorted()[:len(list)], isSame) {
			t.Fatal("an argument is changed")
		}
		same := statetest.Families()[n/6]
		areEqual := func(a, b []api.Value) bool { return slices.EqualFunc(a, b, value.Equal) }
		if !grammar.Same(x.l, same.Language) || !slices.EqualFunc(x.tuples, same.Tuples, areEqual) {
			t.Fatalf("%s: an argument is changed", x.l.Name)
		}
	}
	if results < 1000 {
		t.Error(results)
	}
}

// DOC.md, rule 5: outcomes that are lists share no memory with inputs, constants or each other.
func TestMemoryOfOutcomes(t *testing.T) {
	l := statetest.Mixture()
	var nodes []api.Node
	for rule, r := range l.Rules {
		if r.Kind != api.RuleOp {
			nodes = append(nodes, spacetest.Leaf(r.Symbol, rule))
		}
	}
	inputs := []api.Value{value.OfTable([][]string{{"a", "b"}}), value.OfInts([]int64{1, 2}), value.OfTexts([]string{"a"}), value.OfBits(1)}
	m := memory{}
	m.add(valueCells(inputs))
	for _, r := range l.Rules {
		m.add(valueCells(r.Const.Items))
	}
	for range 2 {
		list, e := refine.Outcomes(l, spacetest.Space(len(nodes), nodes...), inputs)
		if e != api.OK || len(list) != len(nodes) || !m.add(outcomeCells(list)) {
			t.Error(list, e)
		}
	}
}
