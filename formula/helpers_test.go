package formula_test

import (
	"strings"

	"synthesis/api"
	"synthesis/formula"
	"synthesis/value"
)

// parsed returns the formula with this text.
func parsed(text string) api.Formula {
	f, _, e := formula.Parse(text)
	if e != api.OK {
		panic(text)
	}
	return f
}

// printed returns the text of a proper formula.
func printed(f api.Formula) string {
	s, e := formula.Print(f)
	if e != api.OK {
		panic(e)
	}
	return s
}

func form(kind int, subs ...api.Formula) api.Formula { return api.Formula{Kind: kind, Subs: subs} }

func not(f api.Formula) api.Formula { return form(api.FormNot, f) }

func is(x api.Operand) api.Formula { return api.Formula{Kind: api.FormIs, Left: x} }

func equal(x, y api.Operand) api.Formula {
	return api.Formula{Kind: api.FormEqual, Left: x, Right: y}
}

func less(x, y api.Operand) api.Formula { return api.Formula{Kind: api.FormLess, Left: x, Right: y} }

func output() api.Operand { return api.Operand{Kind: api.OperandOutput} }

func input(i int) api.Operand { return api.Operand{Kind: api.OperandInput, Input: i} }

func constant(v api.Value) api.Operand { return api.Operand{Kind: api.OperandConst, Const: v} }

func number(n int64) api.Operand { return constant(value.OfInt(n)) }

func apply(op string, subs ...api.Operand) api.Operand {
	return api.Operand{Kind: api.OperandOp, Op: op, Subs: subs}
}

// nested returns f below as many formulas of a kind as wanted.
func nested(kind, levels int, f api.Formula) api.Formula {
	for range levels {
		f = form(kind, f)
	}
	return f
}

// negs returns x below as many operators as wanted.
func negs(levels int, x api.Operand) api.Operand {
	for range levels {
		x = apply("neg", x)
	}
	return x
}

// wrapped returns the text between as many openings, each of which needs a parenthesis at the end.
func wrapped(opening string, levels int, text string) string {
	return strings.Repeat(opening, levels) + text + strings.Repeat(")", levels)
}

// textCase is a formula and its text.
type textCase struct {
	f    api.Formula
	text string
}

// textCases returns formulas with all kinds of parts.
func textCases() []textCase {
	yes, no := form(api.FormTrue), form(api.FormFalse)
	return []textCase{
		{yes, "true"},
		{no, "false"},
		{form(api.FormAnd), "and()"},
		{form(api.FormOr), "or()"},
		{not(yes), "not(true)"},
		{form(api.FormAnd, yes), "and(true)"},
		{form(api.FormAnd, yes, no, yes), "and(true, false, true)"},
		{form(api.FormOr, form(api.FormOr), not(form(api.FormAnd, no))), "or(or(), not(and(false)))"},
		{is(output()), "is(out)"},
		{is(input(0)), "is(in0)"},
		{not(is(input(3))), "not(is(in3))"},
		{equal(output(), number(-12)), "eq(out, -12)"},
		{less(number(0), constant(value.OfBits(15))), "lt(0, 0x0f)"},
		{equal(constant(value.OfBool(true)), constant(value.OfBool(false))), "eq(true, false)"},
		{equal(constant(value.OfText("a\"b\\), (")), constant(value.OfText(""))), `eq("a\"b\\), (", "")`},
		{less(constant(value.OfInts([]int64{1, -2})), constant(value.OfInts(nil))), "lt([1, -2], [])"},
		{less(constant(value.OfTexts([]string{"a", ", "})), constant(value.OfTexts(nil))), `lt({"a", ", "}, {})`},
		{less(constant(value.OfTable([][]string{{"a", "b"}, {"c", "d"}})), constant(value.OfTable(nil))), `lt(<{"a", "b"}, {"c", "d"}>, <>)`},
		{equal(constant(value.OfPattern("a|b")), constant(value.OfPattern("\""))), `eq(r"a|b", r"\"")`},
		{is(apply("neg", input(1))), "is(neg(in1))"},
		{equal(apply("add", input(0), number(1)), output()), "eq(add(in0, 1), out)"},
		{less(output(), apply("slice", input(0), number(0), apply("len", input(0)))), "lt(out, slice(in0, 0, len(in0)))"},
		// Operators with the names of formulas, and with names that begin with those of others.
		{is(apply("not", apply("and", constant(value.OfBool(true)), apply("or", output(), output())))), "is(not(and(true, or(out, out))))"},
		{equal(apply("min", number(1), number(2)), apply("minimum", input(2))), "eq(min(1, 2), minimum(in2))"},
		{is(apply("sorttexts", apply("split", apply("trim", input(0)), constant(value.OfText(" "))))), `is(sorttexts(split(trim(in0), " ")))`},
		// Types do not matter for a text.
		{is(apply("add", constant(value.OfText("a")), constant(value.OfTable(nil)))), `is(add("a", <>))`},
		{nested(api.FormNot, api.MaxDepth-1, yes), wrapped("not(", 31, "true")},
		{nested(api.FormOr, api.MaxDepth-1, form(api.FormAnd)), wrapped("or(", 31, "and()")},
		{nested(api.FormAnd, api.MaxDepth-1, equal(negs(api.MaxDepth-1, input(0)), output())), wrapped("and(", 31, "eq("+wrapped("neg(", 31, "in0")+", out)")},
	}
}

// small returns many formulas of at most three levels, with constants and atoms at all places.
func small() []api.Formula {
	leaves := []api.Formula{form(api.FormTrue), form(api.FormFalse), form(api.FormAnd), form(api.FormOr), equal(output(), number(1)), is(apply("add", input(0), number(api.MaxInt)))}
	all := leaves
	for range 2 {
		next := leaves
		for i, f := range all {
			next = append(next, not(f), form(api.FormAnd, f), form(api.FormOr, f))
			for k, g := range all {
				// Other pairs would take too long.
				if len(all) < 10 || (i+3*k)%5 == 0 {
					next = append(next, form(api.FormAnd, f, g), form(api.FormOr, f, g))
				}
			}
		}
		all = next
	}
	for i := range len(all) / 7 {
		all = append(all, form(api.FormAnd+i%2, all[i], all[7*i], all[len(all)-1-i]))
	}
	return all
}
