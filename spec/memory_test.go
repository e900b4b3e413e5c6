package spec_test

import (
	"testing"

	"synthesis/api"
	"synthesis/spec"
	"synthesis/value"
)

// valueCells returns the addresses of all elements of slices behind values, up to their capacities.
func valueCells(values []api.Value) []any {
	var cells []any
	all := values[:cap(values)]
	for i := range all {
		cells = append(append(cells, &all[i]), valueCells(all[i].Items)...)
	}
	return cells
}

func formulaCells(f api.Formula) []any {
	cells := append(operandCells(f.Left), operandCells(f.Right)...)
	all := f.Subs[:cap(f.Subs)]
	for i := range all {
		cells = append(append(cells, &all[i]), formulaCells(all[i])...)
	}
	return cells
}

func operandCells(x api.Operand) []any {
	cells := valueCells([]api.Value{x.Const})[1:]
	all := x.Subs[:cap(x.Subs)]
	for i := range all {
		cells = append(append(cells, &all[i]), operandCells(all[i])...)
	}
	return cells
}

func specCells(s api.Spec) []any {
	cells := formulaCells(s.Formula)
	examples := s.Examples[:cap(s.Examples)]
	for i := range examples {
		cells = append(append(cells, &examples[i]), valueCells(examples[i].Inputs)...)
		cells = append(cells, valueCells([]api.Value{examples[i].Output})[1:]...)
	}
	axes := s.Domain.Axes[:cap(s.Domain.Axes)]
	for i := range axes {
		cells = append(append(cells, &axes[i]), valueCells(axes[i])...)
	}
	return cells
}

// tables returns a specification with the same memory in several places.
func tables() (api.Language, api.Spec) {
	l := language("language tables\ninputs table table\nsymbol S table\nrule S = in0\nrule S = in1\n")
	x, y := value.OfTable([][]string{{"a", "b"}, {"c", "d"}}), value.OfTable([][]string{{"e"}})
	s := with("and(eq(out, in0), not(eq(out, <{\"e\"}>)), is(stack(in0, <{\"a\", \"b\"}>)))", []api.Value{x, y}, []api.Value{y, x})
	s.Formula.Subs = append(s.Formula.Subs, s.Formula.Subs...)
	return l, and(s, of(x, x, x), of(x, x, y))
}

// DOC.md, rule 5: results share no memory with arguments or with each other, and arguments stay as they are.
func TestMemory(t *testing.T) {
	l, s := tables()
	before := printed(s)
	isUsed := map[any]bool{}
	for _, cell := range specCells(s) {
		isUsed[cell] = true
	}
	check := func(name string, cells []any) {
		for _, cell := range cells {
			if isUsed[cell] {
				t.Fatalf("the result of %s shares memory", name)
			}
			isUsed[cell] = true
		}
	}
	for range 2 {
		joined, e := spec.Join(s, s)
		if e != api.OK {
			t.Fatal(e)
		}
		check("Join", specCells(joined))
		read, _, e := spec.Parse(before)
		if e != api.OK {
			t.Fatal(e)
		}
		check("Parse", specCells(read))
		// The first program violates a tuple of the domain, the second one an example.
		for rule := range 2 {
			tuple, isViolated, e := spec.Violation(l, api.Term{Rule: rule}, s)
			if !isViolated || e != api.OK {
				t.Fatal(rule, isViolated, e)
			}
			check("Violation", valueCells(tuple))
		}
	}
	if printed(s) != before {
		t.Error("an argument is changed")
	}
}
