package refine_test

import (
	"slices"
	"testing"

	"synthesis/api"
	"synthesis/build"
	"synthesis/canon"
	"synthesis/domain"
	"synthesis/refine"
	"synthesis/space"
	"synthesis/spacetest"
	"synthesis/statetest"
	"synthesis/term"
	"synthesis/value"
)

// P32.1: version spaces of several kinds, and examples that some of their programs match, or none.
func TestExample(t *testing.T) {
	var d spacetest.Dice
	some, others := 0, 0
	for _, x := range samples(&d, 15) {
		for range 8 {
			e := x.example(&d)
			matching := x.programs.Kept(func(_ string, y api.Term) bool { return x.matches(y, e) })
			checkSpace(t, x.l, matching)(refine.Example(x.l, x.s, e))
			if len(matching) > 0 && len(matching) < len(x.programs) {
				some++
			}
			for _, y := range matching {
				if x.l.Rules[y.Rule].Symbol != 0 {
					others++
				}
			}
		}
	}
	if some < 200 || others < 50 {
		t.Error(some, others)
	}
}

// formulas returns formulas that compare the output with a value, and others.
func formulas(v api.Value) []api.Formula {
	atom := func(kind int) api.Formula {
		return api.Formula{Kind: kind, Left: output(), Right: constant(v)}
	}
	is := api.Formula{Kind: api.FormIs, Left: output()}
	of := func(kind int, subs ...api.Formula) api.Formula { return api.Formula{Kind: kind, Subs: subs} }
	return []api.Formula{
		always(), {Kind: api.FormFalse}, atom(api.FormEqual), atom(api.FormLess), is,
		of(api.FormNot, atom(api.FormEqual)), of(api.FormNot, atom(api.FormLess)), of(api.FormNot, is),
		of(api.FormOr, atom(api.FormLess), atom(api.FormEqual)), of(api.FormAnd),
	}
}

// P32.2: formulas on several tuples, with examples and without them. Programs of other symbols may have outputs of other types, which a formula does not fit.
func TestRequire(t *testing.T) {
	var d spacetest.Dice
	some, others, undefined := 0, 0, 0
	for _, x := range samples(&d, 10) {
		for n := range 3 {
			e := x.example(&d)
			p := api.Spec{Domain: axes(len(x.l.Inputs), x.tuples[:min(n, len(x.tuples))])}
			tuples, _ := domain.All(p.Domain)
			for k, f := range formulas(e.Output) {
				p.Formula = f
				p.Examples = nil
				if (n+k)%4 == 0 {
					p.Examples = []api.Example{e}
				}
				good := x.programs.Kept(func(_ string, y api.Term) bool { return x.satisfies(y, p, tuples) })
				checkSpace(t, x.l, good)(refine.Require(x.l, x.s, p))
				if len(good) > 0 && len(good) < len(x.programs) {
					some++
				}
				for _, y := range x.programs {
					isGood := good.Has(spacetest.Write(y))
					if isGood && len(tuples) > 0 && x.l.Symbols[x.l.Rules[y.Rule].Symbol].Type != x.l.Symbols[0].Type {
						others++
					}
					if !isGood && f.Kind == api.FormTrue && len(p.Examples) == 0 {
						undefined++
					}
				}
			}
		}
	}
	if some < 400 || others < 50 || undefined < 20 {
		t.Error(some, others, undefined)
	}
}

// P32.2: the inputs and the output together, in a domain of two axes, and several examples.
func TestRequireExamples(t *testing.T) {
	l := statetest.Language("language pairs\ninputs int int\nsymbol S int\nrule S = in0\nrule S = in1\nrule S = add(S, S)\nrule S = sub(S, S)\nrule S = max(S, S)\n")
	in := func(i int) api.Operand { return api.Operand{Kind: api.OperandInput, Input: i} }
	op := func(name string, subs ...api.Operand) api.Operand {
		return api.Operand{Kind: api.OperandOp, Op: name, Subs: subs}
	}
	equal := func(a api.Operand) api.Formula {
		return api.Formula{Kind: api.FormEqual, Left: a, Right: output()}
	}
	all, _ := space.All(l, 0, 3)
	x := sample{l, all, nil, spacetest.Programs(all)}
	d := axes(2, [][]api.Value{{value.OfInt(0), value.OfInt(5)}, {value.OfInt(3), value.OfInt(-2)}, {value.OfInt(-1), value.OfInt(5)}})
	first := api.Example{Inputs: []api.Value{value.OfInt(1), value.OfInt(1)}, Output: value.OfInt(1)}
	second := api.Example{Inputs: []api.Value{value.OfInt(2), value.OfInt(1)}, Output: value.OfInt(2)}
	for i, c := range []struct {
		p     api.Spec
		count int
	}{
		{api.Spec{Formula: equal(op("add", in(0), in(1))), Domain: d}, 2},
		{api.Spec{Formula: equal(op("sub", in(0), in(1))), Domain: d}, 1},
		{api.Spec{Formula: equal(op("max", in(1), in(0))), Domain: d}, 2},
		{api.Spec{Formula: equal(in(0)), Domain: d}, 2},
		{api.Spec{Examples: []api.Example{first}, Formula: always(), Domain: d}, 6},
		{api.Spec{Examples: []api.Example{first, second}, Formula: always(), Domain: d}, 4},
		{api.Spec{Examples: []api.Example{second, first}, Formula: equal(in(0)), Domain: d}, 2},
		{api.Spec{Examples: []api.Example{second}, Formula: equal(in(1)), Domain: d}, 0},
		{api.Spec{Examples: []api.Example{second}, Formula: equal(in(1)), Domain: axes(2, nil)}, 5},
		{api.Spec{Formula: api.Formula{Kind: api.FormFalse}, Domain: d}, 0},
		{api.Spec{Formula: api.Formula{Kind: api.FormFalse}, Domain: axes(2, nil)}, 14},
	} {
		tuples, _ := domain.All(c.p.Domain)
		good := x.programs.Kept(func(_ string, y api.Term) bool { return x.satisfies(y, c.p, tuples) })
		if checkSpace(t, l, good)(refine.Require(l, x.s, c.p)); len(good) != c.count {
			t.Errorf("case %d: %d programs, not %d", i, len(good), c.count)
		}
	}
}

// P32.3: lists of programs, of terms that are none, and of both, in any order, some of them twice.
func TestForbid(t *testing.T) {
	var d spacetest.Dice
	some := 0
	for _, x := range samples(&d, 8) {
		other := spacetest.RulesOf(x.l).Random(&d, 8)
		var candidates []api.Term
		for _, terms := range append(spacetest.Derived(x.s), spacetest.Derived(other)...) {
			candidates = append(candidates, terms...)
		}
		for range 4 {
			var list []api.Term
			for _, y := range candidates {
				if d.Roll(3) == 0 && len(list) < api.MaxTerms {
					list = append(list, y)
				}
			}
			slices.SortFunc(list, func(a, b api.Term) int { return term.Compare(b, a) })
			forbidden := spacetest.SetOf(list...)
			rest := x.programs.Kept(func(text string, _ api.Term) bool { return !forbidden.Has(text) })
			checkSpace(t, x.l, rest)(refine.Forbid(x.l, x.s, list))
			if len(rest) > 0 && len(rest) < len(x.programs) {
				some++
			}
		}
		checkSpace(t, x.l, x.programs)(refine.Forbid(x.l, x.s, nil))
	}
	if some < 100 {
		t.Error(some)
	}
}

// P32.4: the outcomes of all programs on each tuple, the values in order, and then the undefined outcome.
func TestOutcomes(t *testing.T) {
	var d spacetest.Dice
	many, undefined := 0, 0
	for _, x := range samples(&d, 15) {
		for _, tuple := range x.tuples {
			var values []api.Value
			var want []api.Outcome
			isUndefined := false
			for _, y := range x.programs {
				o := x.outcome(y, tuple)
				if isUndefined = isUndefined || o.Errno != api.OK; o.Errno == api.OK {
					values = append(values, o.Value)
				}
			}
			slices.SortFunc(values, value.Compare)
			for _, v := range slices.CompactFunc(values, value.Equal) {
				want = append(want, api.Outcome{Value: v})
			}
			if isUndefined {
				want = append(want, api.Outcome{Errno: api.ErrUndefined})
				undefined++
			}
			got, e := refine.Outcomes(x.l, x.s, tuple)
			isSame := func(a, b api.Outcome) bool { return a.Errno == b.Errno && value.Equal(a.Value, b.Value) }
			if e != api.OK || !slices.EqualFunc(got, want, isSame) {
				t.Fatalf("%s: %v on %v: %v, %d, not %v", x.l.Name, x.s, tuple, got, e, want)
			}
			if len(want) > 2 {
				many++
			}
		}
	}
	if many < 50 || undefined < 20 {
		t.Error(many, undefined)
	}
}

// P32.5: the order of two examples, specifications with one example, subsets, and Forbid of all programs.
func TestConsequences(t *testing.T) {
	var d spacetest.Dice
	for _, x := range samples(&d, 12) {
		for range 4 {
			first, second := x.example(&d), x.example(&d)
			one := checkExample(t, x, first)
			two := checkExample(t, x, second)
			a, e := refine.Example(x.l, one, second)
			b, f := refine.Example(x.l, two, first)
			if e != api.OK || f != api.OK || !spacetest.Equal(a, b) {
				t.Fatalf("%s: %v, %d, and in the other order %v, %d", x.l.Name, a, e, b, f)
			}
		}
		if rest, e := refine.Forbid(x.l, x.s, x.programs.Sorted()); e != api.OK || !spacetest.IsZero(rest) {
			t.Fatalf("%s: %v, %d", x.l.Name, rest, e)
		}
	}
}

// checkExample compares Example with Require for this example alone, and returns it.
func checkExample(t *testing.T, x sample, e api.Example) api.Space {
	t.Helper()
	s, f := refine.Example(x.l, x.s, e)
	p := api.Spec{Examples: []api.Example{e}, Formula: always(), Domain: axes(len(x.l.Inputs), nil)}
	if required, g := refine.Require(x.l, x.s, p); f != api.OK || g != api.OK || !spacetest.Equal(required, s) {
		t.Fatalf("%s: %v, %d, not %v, %d", x.l.Name, required, g, s, f)
	}
	if is, g := canon.Subset(s, x.s); g != api.OK || !is || space.Check(x.l, s) != api.OK {
		t.Fatalf("%s: %v is not a subset of %v", x.l.Name, s, x.s)
	}
	return s
}

// P32.5: Example of the version space of all consistent programs is the one for the longer list of examples.
func TestLongerLists(t *testing.T) {
	for _, x := range statetest.Families() {
		most := x.Most - 1
		classes := statetest.ClassesOf(x.Language, x.Tuples, most)
		for i := 0; i < len(classes); i += 1 + len(classes)/10 {
			list, isDefined := classes[i].Examples(x.Tuples)
			if !isDefined {
				continue
			}
			s, e := build.Space(x.Language, nil, most)
			for n := range list {
				want, f := build.Space(x.Language, list[:n+1], most)
				s, e = refine.Example(x.Language, s, list[n])
				if e != api.OK || f != api.OK || !spacetest.Equal(s, want) {
					t.Fatalf("%s: %v: %v, %d, not %v, %d", x.Language.Name, list[:n+1], s, e, want, f)
				}
			}
		}
	}
}

// P32.1, P32.4: the example of the document, and the empty version space.
func TestDocumentExamples(t *testing.T) {
	l := doubling()
	leaf, sum := spacetest.Leaf(0, 0), spacetest.Node(0, 3, spacetest.Option(1, 0, 0))
	s := spacetest.Space(2, leaf, sum)
	if got, e := refine.Example(l, s, number(2, 4)); e != api.OK || !spacetest.Equal(got, spacetest.Space(1, leaf, sum)) {
		t.Error(got, e)
	}
	for in, want := range map[int64][]int64{0: {0}, 1: {1, 2}, -1: {-2, -1}} {
		got, e := refine.Outcomes(l, s, []api.Value{value.OfInt(in)})
		var numbers []int64
		for _, o := range got {
			numbers = append(numbers, o.Value.Num)
		}
		if e != api.OK || !slices.Equal(numbers, want) {
			t.Error(in, got, e)
		}
	}
	if got, e := refine.Outcomes(l, api.Space{}, []api.Value{value.OfInt(1)}); e != api.OK || len(got) > 0 {
		t.Error(got, e)
	}
	// The nodes that are no roots have no programs.
	if got, e := refine.Outcomes(l, spacetest.Space(1, leaf, sum), []api.Value{value.OfInt(1)}); e != api.OK || len(got) != 1 || got[0].Value.Num != 2 {
		t.Error(got, e)
	}
	checkSpace(t, l, nil)(refine.Example(l, api.Space{}, number(1, 1)))
	checkSpace(t, l, nil)(refine.Require(l, api.Space{}, api.Spec{Formula: always(), Domain: axes(1, nil)}))
	checkSpace(t, l, nil)(refine.Forbid(l, api.Space{}, []api.Term{{}}))
}
