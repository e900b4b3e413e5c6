package formula_test

import (
	"math"
	"strings"
	"testing"

	"synthesis/api"
	"synthesis/formula"
	"synthesis/operator"
	"synthesis/value"
)

type formCase struct {
	f    api.Formula
	want api.Errno
}

// formCases returns formulas with the errors that make them improper. The proper ones fit inputs of the types Int, Text, Ints and Table, and an output of the type Int.
func formCases() []formCase {
	yes, x := form(api.FormTrue), number(1)
	tooGreat, hasText := constant(value.OfInt(api.MaxInt+1)), constant(api.Value{Type: api.Int, Text: "a"})
	bad := form(9)
	endless, endlessOperand := form(api.FormAnd, yes, yes), apply("add", x, x)
	endless.Subs[0], endless.Subs[1] = endless, endless
	endlessOperand.Subs[0], endlessOperand.Subs[1] = endlessOperand, endlessOperand
	return []formCase{
		// Kinds.
		{api.Formula{}, api.ErrForm}, {form(9), api.ErrForm}, {form(-1), api.ErrForm}, {form(math.MaxInt), api.ErrForm}, {form(math.MinInt), api.ErrForm},
		// Fields that are used, or not.
		{yes, api.OK}, {api.Formula{Kind: api.FormTrue, Subs: []api.Formula{}}, api.OK}, {form(api.FormTrue, yes), api.ErrForm}, {form(api.FormFalse, yes), api.ErrForm},
		{api.Formula{Kind: api.FormTrue, Left: x}, api.ErrForm}, {api.Formula{Kind: api.FormTrue, Right: x}, api.ErrForm}, {api.Formula{Kind: api.FormFalse, Left: x}, api.ErrForm}, {api.Formula{Kind: api.FormFalse, Right: x}, api.ErrForm},
		{not(yes), api.OK}, {form(api.FormNot), api.ErrForm}, {form(api.FormNot, yes, yes), api.ErrForm}, {api.Formula{Kind: api.FormNot, Subs: []api.Formula{yes}, Left: x}, api.ErrForm}, {api.Formula{Kind: api.FormNot, Subs: []api.Formula{yes}, Right: x}, api.ErrForm},
		{form(api.FormAnd), api.OK}, {form(api.FormOr, yes, yes), api.OK}, {api.Formula{Kind: api.FormAnd, Left: x}, api.ErrForm}, {api.Formula{Kind: api.FormAnd, Right: x}, api.ErrForm}, {api.Formula{Kind: api.FormOr, Left: x}, api.ErrForm}, {api.Formula{Kind: api.FormOr, Right: x}, api.ErrForm},
		{is(x), api.OK}, {api.Formula{Kind: api.FormIs, Left: x, Right: x}, api.ErrForm}, {api.Formula{Kind: api.FormIs, Left: x, Subs: []api.Formula{yes}}, api.ErrForm}, {api.Formula{Kind: api.FormIs}, api.ErrForm}, {api.Formula{Kind: api.FormIs, Right: x}, api.ErrForm},
		{equal(x, x), api.OK}, {less(x, x), api.OK}, {api.Formula{Kind: api.FormEqual, Left: x}, api.ErrForm}, {api.Formula{Kind: api.FormLess, Right: x}, api.ErrForm}, {api.Formula{Kind: api.FormEqual, Left: x, Right: x, Subs: []api.Formula{yes}}, api.ErrForm}, {api.Formula{Kind: api.FormLess, Left: x, Right: x, Subs: []api.Formula{yes}}, api.ErrForm},
		// Each field of an operand that must be zero counts.
		{api.Formula{Kind: api.FormTrue, Left: api.Operand{Input: 1}}, api.ErrForm}, {api.Formula{Kind: api.FormTrue, Left: api.Operand{Op: "a"}}, api.ErrForm}, {api.Formula{Kind: api.FormTrue, Left: api.Operand{Const: api.Value{Num: 1}}}, api.ErrForm}, {api.Formula{Kind: api.FormTrue, Left: api.Operand{Const: api.Value{Text: "a"}}}, api.ErrForm},
		{api.Formula{Kind: api.FormTrue, Left: api.Operand{Subs: []api.Operand{{}}}}, api.ErrForm}, {api.Formula{Kind: api.FormTrue, Left: api.Operand{Const: api.Value{Items: []api.Value{{}}}}}, api.ErrForm}, {api.Formula{Kind: api.FormTrue, Left: api.Operand{Subs: []api.Operand{}, Const: api.Value{Items: []api.Value{}}}}, api.OK},
		// Operands.
		{is(api.Operand{}), api.ErrForm}, {is(api.Operand{Kind: 5}), api.ErrForm}, {is(api.Operand{Kind: -1}), api.ErrForm},
		{is(output()), api.OK}, {is(api.Operand{Kind: api.OperandOutput, Input: 1}), api.ErrForm}, {is(api.Operand{Kind: api.OperandOutput, Const: x.Const}), api.ErrForm}, {is(api.Operand{Kind: api.OperandOutput, Op: "neg"}), api.ErrForm}, {is(api.Operand{Kind: api.OperandOutput, Subs: []api.Operand{x}}), api.ErrForm},
		{is(input(0)), api.OK}, {is(input(3)), api.OK}, {is(input(4)), api.ErrRange}, {is(input(-1)), api.ErrRange}, {is(input(math.MaxInt)), api.ErrRange}, {is(input(math.MinInt)), api.ErrRange},
		{is(api.Operand{Kind: api.OperandInput, Const: x.Const}), api.ErrForm}, {is(api.Operand{Kind: api.OperandInput, Op: "neg"}), api.ErrForm}, {is(api.Operand{Kind: api.OperandInput, Input: 4, Subs: []api.Operand{x}}), api.ErrForm},
		{is(api.Operand{Kind: api.OperandConst, Const: x.Const, Input: 1}), api.ErrForm}, {is(api.Operand{Kind: api.OperandConst, Const: x.Const, Op: "neg"}), api.ErrForm}, {is(api.Operand{Kind: api.OperandConst, Subs: []api.Operand{x}}), api.ErrForm},
		{is(constant(api.Value{})), api.ErrType}, {is(tooGreat), api.ErrRange}, {is(hasText), api.ErrForm}, {is(constant(value.OfText(strings.Repeat("a", 65)))), api.ErrSize}, {is(constant(value.OfPattern("a("))), api.OK},
		{is(apply("neg", x)), api.OK}, {is(api.Operand{Kind: api.OperandOp, Op: "neg", Subs: []api.Operand{x}, Input: 1}), api.ErrForm}, {is(api.Operand{Kind: api.OperandOp, Op: "neg", Subs: []api.Operand{x}, Const: x.Const}), api.ErrForm},
		{is(apply("", x)), api.ErrName}, {is(apply("plus", x, x)), api.ErrName}, {is(apply("Neg", x)), api.ErrName}, {is(apply("eq", x, x)), api.ErrName}, {is(apply("neg")), api.ErrSize}, {is(apply("neg", x, x)), api.ErrSize}, {is(apply("add", x)), api.ErrSize}, {is(apply("slice", x, x, x, x)), api.ErrSize},
		// Levels.
		{nested(api.FormNot, 31, yes), api.OK}, {nested(api.FormNot, 32, yes), api.ErrSize}, {nested(api.FormOr, 31, equal(negs(31, x), negs(31, output()))), api.OK}, {nested(api.FormAnd, 32, is(x)), api.ErrSize}, {nested(api.FormNot, 32, bad), api.ErrSize}, {nested(api.FormNot, 31, form(api.FormNot)), api.ErrForm},
		{is(negs(31, x)), api.OK}, {is(negs(32, x)), api.ErrSize}, {less(x, negs(32, x)), api.ErrSize}, {is(negs(32, tooGreat)), api.ErrSize}, {is(negs(31, tooGreat)), api.ErrRange}, {nested(api.FormNot, 1000, yes), api.ErrSize}, {is(negs(1000, x)), api.ErrSize}, {endless, api.ErrSize}, {is(endlessOperand), api.ErrSize},
		// The first part in preorder counts, and for one part the first error.
		{form(api.FormAnd, is(tooGreat), bad), api.ErrRange}, {form(api.FormAnd, yes, bad, is(tooGreat)), api.ErrForm}, {form(api.FormOr, form(api.FormOr, yes, is(apply("plus"))), bad), api.ErrName}, {form(api.FormNot, is(tooGreat), yes), api.ErrForm}, {api.Formula{Kind: api.FormAnd, Subs: []api.Formula{is(tooGreat)}, Left: x}, api.ErrForm},
		{equal(tooGreat, api.Operand{}), api.ErrRange}, {less(apply("neg"), tooGreat), api.ErrSize}, {less(apply("neg", tooGreat), api.Operand{}), api.ErrRange}, {equal(apply("plus", tooGreat), x), api.ErrName}, {equal(apply("neg", tooGreat, x), x), api.ErrSize}, {equal(api.Operand{Kind: api.OperandOp, Op: "plus", Input: 1}, x), api.ErrForm}, {equal(x, apply("add", apply("neg"), tooGreat)), api.ErrSize},
		{api.Formula{Kind: api.FormEqual, Left: tooGreat, Right: x, Subs: []api.Formula{bad}}, api.ErrForm}, {api.Formula{Kind: api.FormIs, Left: tooGreat, Right: x}, api.ErrForm}, {form(api.FormAnd, nested(api.FormNot, 31, yes), is(tooGreat)), api.ErrSize}, {form(api.FormAnd, is(tooGreat), nested(api.FormNot, 31, yes)), api.ErrRange},
	}
}

// fourTypes returns the types of as many inputs as there may be.
func fourTypes() []int { return []int{api.Int, api.Text, api.Ints, api.Table} }

// isZero reports whether f has no parts and no kind.
func isZero(f api.Formula) bool { return f.Kind == 0 && formula.Size(f) == 1 }

// P18.1, P18.3, P18.4, P18.5: the errors of formulas that are not proper.
func TestForms(t *testing.T) {
	for i, x := range formCases() {
		if e := formula.Check(x.f, fourTypes(), api.Int); e != x.want {
			t.Errorf("case %d: Check is %d, not %d", i, e, x.want)
		}
		// An error of this kind comes before the errors of types.
		if e := formula.Check(x.f, nil, api.Table); x.want != api.OK && e != x.want {
			t.Errorf("case %d: Check without inputs is %d, not %d", i, e, x.want)
		}
		if f, e := formula.Reduce(x.f); e != x.want || isZero(f) != (e != api.OK) {
			t.Errorf("case %d: Reduce is %v, %d, not %d", i, f, e, x.want)
		}
		if s, e := formula.Print(x.f); e != x.want || (s == "") != (e != api.OK) {
			t.Errorf("case %d: Print is %q, %d, not %d", i, s, e, x.want)
		}
		f, e := formula.Negate(x.f)
		// An atom on the last level has no negation.
		if want := x.want; e != want && !(want == api.OK && e == api.ErrSize) || isZero(f) != (e != api.OK) {
			t.Errorf("case %d: Negate is %v, %d, not %d", i, f, e, want)
		}
		tuple := []api.Value{value.OfInt(1), value.OfText("a"), value.OfInts(nil), value.OfTable(nil)}
		if x.want != api.OK && formula.Holds(x.f, tuple, value.OfInt(1)) {
			t.Errorf("case %d holds", i)
		}
	}
}

// P18.1: the types of the inputs and of the output.
func TestTypesOfInputs(t *testing.T) {
	for i, x := range []struct {
		f      api.Formula
		inputs []int
		output int
		want   api.Errno
	}{
		{form(api.FormTrue), nil, api.Bool, api.OK},
		{form(api.FormTrue), []int{}, api.Pattern, api.OK},
		{form(api.FormTrue), []int{api.Bool, api.Int, api.Text, api.Bits}, api.Ints, api.OK},
		{form(api.FormTrue), []int{api.Texts, api.Table, api.Pattern, api.Pattern}, api.Table, api.OK},
		{form(9), []int{1, 1, 1, 1, 1}, 0, api.ErrSize},
		{form(9), []int{1, 1, 1, 0}, 1, api.ErrType},
		{form(9), []int{9, 1}, 1, api.ErrType},
		{form(9), []int{-1}, 1, api.ErrType},
		{form(9), []int{1}, 0, api.ErrType},
		{form(9), nil, 9, api.ErrType},
		{form(9), nil, math.MinInt, api.ErrType},
		{form(9), nil, 1, api.ErrForm},
		{form(api.FormTrue), []int{math.MaxInt}, 1, api.ErrType},
	} {
		if e := formula.Check(x.f, x.inputs, x.output); e != x.want {
			t.Errorf("case %d: %d, not %d", i, e, x.want)
		}
	}
}

// P18.1: the types of operands.
func TestTypesOfOperands(t *testing.T) {
	for _, x := range []struct {
		text   string
		inputs []int
		want   api.Errno
	}{
		{"is(in0)", []int{api.Text}, api.OK},
		{"is(in0)", nil, api.ErrRange},
		{"is(in1)", []int{api.Text}, api.ErrRange},
		{"is(in3)", fourTypes(), api.OK},
		{"is(in3)", fourTypes()[:3], api.ErrRange},
		{"eq(out, 1)", nil, api.OK},
		{"eq(out, 0x01)", nil, api.ErrType},
		{"lt(out, \"1\")", nil, api.ErrType},
		{"eq(in0, out)", []int{api.Int}, api.OK},
		{"eq(in0, out)", []int{api.Text}, api.ErrType},
		{"lt(in0, in1)", []int{api.Table, api.Table}, api.OK},
		{"lt(in0, in1)", []int{api.Text, api.Pattern}, api.ErrType},
		{"lt(\"a\", r\"a\")", nil, api.ErrType},
		{"eq([], {})", nil, api.ErrType},
		{"eq({}, <>)", nil, api.ErrType},
		{"eq(true, false)", nil, api.OK},
		// An input that does not exist has no type.
		{"eq(in0, 1)", nil, api.ErrType},
		{"eq(1, in0)", nil, api.ErrType},
		{"eq(in0, in1)", nil, api.ErrType},
		{"eq(in0, in0)", nil, api.ErrType},
		{"lt(in1, in1)", []int{api.Int}, api.ErrType},
		{"is(neg(in0))", nil, api.ErrType},
		{"is(neg(in0))", []int{api.Int}, api.OK},
		{"is(neg(in0))", []int{api.Text}, api.ErrType},
		{"is(neg(out))", nil, api.OK},
		{"is(len(out))", nil, api.ErrType},
		{"is(slice(\"a\", out, len(\"a\")))", nil, api.OK},
		{"is(slice(\"a\", out, \"a\"))", nil, api.ErrType},
		{"is(slice(1, out, 1))", nil, api.ErrType},
		{"eq(len(in0), out)", []int{api.Text}, api.OK},
		{"eq(upper(in0), out)", []int{api.Text}, api.ErrType},
		{"eq(upper(in0), in0)", []int{api.Text}, api.OK},
		{"is(ones(bnot(0x01)))", nil, api.OK},
		{"is(occurs(\"a\", plit(\"a\")))", nil, api.OK},
		{"is(occurs(\"a\", \"a\"))", nil, api.ErrType},
		// An operator or an atom is examined before its parts, and a part before the next one.
		{"eq(neg(in0), \"a\")", nil, api.ErrType},
		{"and(is(in0), eq(out, \"a\"))", nil, api.ErrRange},
		{"and(eq(out, \"a\"), is(in0))", nil, api.ErrType},
		{"or(true, and(not(is(in0)), is(len(1))))", nil, api.ErrRange},
		{"or(true, and(not(is(len(1))), is(in0)))", nil, api.ErrType},
		{"is(add(neg(in0), in0))", nil, api.ErrType},
		{"not(is(in0))", nil, api.ErrRange},
	} {
		if e := formula.Check(parsed(x.text), x.inputs, api.Int); e != x.want {
			t.Errorf("%s with %v: %d, not %d", x.text, x.inputs, e, x.want)
		}
	}
	// Every operator takes operands of its types, and the result has its type.
	for _, name := range operator.Names() {
		o, _ := operator.Find(name)
		var subs []api.Operand
		for _, a := range o.Args {
			v, _ := value.Default(a)
			subs = append(subs, constant(v))
		}
		f := equal(output(), apply(name, subs...))
		for kind := api.Bool; kind <= api.Pattern; kind++ {
			if e := formula.Check(f, nil, kind); (e == api.OK) != (kind == o.Result) || e != api.OK && e != api.ErrType {
				t.Errorf("%s with %d: %d", name, kind, e)
			}
		}
		for i := range subs {
			subs[i] = input(i)
			if e := formula.Check(f, o.Args, o.Result); e != api.OK {
				t.Errorf("%s with inputs: %d", name, e)
			}
			if e := formula.Check(f, o.Args[:i], o.Result); e != api.ErrType {
				t.Errorf("%s with %d inputs: %d", name, i, e)
			}
		}
	}
}
