package formula_test

import (
	"testing"

	"synthesis/api"
	"synthesis/formula"
	"synthesis/value"
)

// addCells adds the addresses of all elements of slices behind a formula.
func addCells(cells []any, f api.Formula) []any {
	all := f.Subs[:cap(f.Subs)]
	for i := range all {
		cells = addCells(append(cells, &all[i]), all[i])
	}
	return addOperandCells(addOperandCells(cells, f.Left), f.Right)
}

func addOperandCells(cells []any, x api.Operand) []any {
	all := x.Subs[:cap(x.Subs)]
	for i := range all {
		cells = addOperandCells(append(cells, &all[i]), all[i])
	}
	return addValueCells(cells, x.Const)
}

func addValueCells(cells []any, v api.Value) []any {
	all := v.Items[:cap(v.Items)]
	for i := range all {
		cells = addValueCells(append(cells, &all[i]), all[i])
	}
	return cells
}

// sharing returns a formula in which the same memory stands in several places.
func sharing() api.Formula {
	table := constant(value.OfTable([][]string{{"a", "b"}, {"c", "d"}}))
	rows := apply("stack", table, table)
	atom := equal(rows, rows)
	both := form(api.FormAnd, atom, less(table, rows), not(is(rows)))
	return form(api.FormOr, form(api.FormTrue), both, not(both), form(api.FormOr, not(atom), both, atom), not(not(atom)), not(form(api.FormAnd, both, is(rows))))
}

// reducible is sharing without the part that decides.
func reducible() api.Formula {
	f := sharing()
	f.Subs = f.Subs[1:]
	return f
}

// DOC.md, rule 5: results share no memory with arguments, and no two parts of a result share memory.
func TestMemory(t *testing.T) {
	both := reducible().Subs[0]
	for i, f := range []api.Formula{sharing(), reducible(), not(reducible()), both, not(both), both.Subs[0], not(both.Subs[0]), form(api.FormAnd, both.Subs[0]), form(api.FormAnd, both, both.Subs[2])} {
		for name, change := range map[string]func(api.Formula) (api.Formula, api.Errno){"Negate": formula.Negate, "Reduce": formula.Reduce} {
			before := printed(f)
			result, e := change(f)
			if e != api.OK || printed(f) != before {
				t.Fatalf("case %d: %s changes %s to %s", i, name, before, printed(f))
			}
			isUsed := map[any]bool{}
			for _, cell := range addCells(nil, f) {
				isUsed[cell] = true
			}
			checkCells(t, name, isUsed, result)
		}
		checkCells(t, "Parse", map[any]bool{}, parsed(printed(f)))
	}
}

// checkCells checks that no element of a slice of the result is in use elsewhere.
func checkCells(t *testing.T, name string, isUsed map[any]bool, result api.Formula) {
	t.Helper()
	for _, cell := range addCells(nil, result) {
		if isUsed[cell] {
			t.Fatalf("the result %s of %s shares memory", printed(result), name)
		}
		isUsed[cell] = true
	}
}

// DOC.md, rule 5: arguments stay as they are.
func TestArguments(t *testing.T) {
	f := sharing()
	inputs, output := []api.Value{value.OfInts([]int64{3, 1})}, value.OfTexts([]string{"b", "a"})
	formula.Check(f, []int{api.Ints}, api.Texts)
	formula.Holds(f, inputs, output)
	formula.Holds(parsed("eq(sorttexts(out), sorttexts(out))"), inputs, output)
	formula.Holds(parsed("eq(sort(in0), reverse(in0))"), inputs, output)
	formula.Print(f)
	formula.Size(f)
	if printed(f) != printed(sharing()) || !value.Equal(inputs[0], value.OfInts([]int64{3, 1})) || !value.Equal(output, value.OfTexts([]string{"b", "a"})) {
		t.Error("an argument is changed")
	}
}
