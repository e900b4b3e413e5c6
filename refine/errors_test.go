package refine_test

import (
	"math"
	"slices"
	"testing"

	"synthesis/api"
	"synthesis/grammar"
	"synthesis/refine"
	"synthesis/spacetest"
	"synthesis/statetest"
	"synthesis/tally"
	"synthesis/value"
)

// A call has arguments of all functions.
type call struct {
	l      api.Language
	s      api.Space
	e      api.Example
	p      api.Spec
	list   []api.Term
	inputs []api.Value
}

// callOf returns a call for an example, which is that of the specification, too.
func callOf(l api.Language, s api.Space, e api.Example) call {
	return call{l, s, e, api.Spec{Examples: []api.Example{e}, Formula: always(), Domain: axes(len(l.Inputs), nil)}, nil, e.Inputs}
}

// checkErrors checks that Example, Require, Forbid and Outcomes return these errors, and nothing else with an error.
func checkErrors(t *testing.T, x call, want ...api.Errno) {
	t.Helper()
	example, e := refine.Example(x.l, x.s, x.e)
	required, f := refine.Require(x.l, x.s, x.p)
	rest, g := refine.Forbid(x.l, x.s, x.list)
	found, h := refine.Outcomes(x.l, x.s, x.inputs)
	if got := []api.Errno{e, f, g, h}; !slices.Equal(got, want) {
		t.Errorf("%d, not %d", got, want)
	}
	for i, s := range []api.Space{example, required, rest} {
		if want[i] != api.OK && !spacetest.IsZero(s) {
			t.Errorf("function %d returns %v", i, s)
		}
	}
	if h != api.OK && len(found) > 0 {
		t.Errorf("Outcomes is %v", found)
	}
}

// checkAll checks that all functions return one error.
func checkAll(t *testing.T, x call, want api.Errno) {
	t.Helper()
	checkErrors(t, x, want, want, want, want)
}

// P32.1 to P32.4: invalid languages, and then version spaces that do not belong to the language, before all else.
func TestLanguageAndSpaceErrors(t *testing.T) {
	l, good := statetest.Sums(), spacetest.Space(1, spacetest.Leaf(0, 0))
	wrong := call{s: good, e: api.Example{Output: value.OfText("a")}, list: []api.Term{{Rule: -1}}}
	wrong.list = slices.Repeat(wrong.list, api.MaxTerms+1)
	for _, wrong.l = range statetest.Invalid() {
		checkAll(t, wrong, grammar.Check(wrong.l))
		checkAll(t, call{l: wrong.l, s: api.Space{Roots: []int{0}}}, grammar.Check(wrong.l))
	}
	for _, wrong.l = range []api.Language{l, statetest.ManyStates(2)} {
		for _, wrong.s = range spacetest.Malformed() {
			checkAll(t, wrong, api.ErrForm)
		}
		wrong.s = api.Space{Roots: []int{0}}
		checkAll(t, wrong, api.ErrForm)
	}
	right := callOf(l, good, number(1, 1))
	checkAll(t, right, api.OK)
	leaf, node, option := spacetest.Leaf, spacetest.Node, spacetest.Option
	for _, x := range []struct {
		nodes []api.Node
		want  api.Errno
	}{
		{[]api.Node{leaf(1, 0)}, api.ErrRange},
		{[]api.Node{leaf(0, 3)}, api.ErrRange},
		{[]api.Node{leaf(0, 0, 2)}, api.ErrForm},
		{[]api.Node{leaf(0, 0), node(0, 2, option(2, 0))}, api.ErrForm},
		{[]api.Node{leaf(0, 0), node(0, 2, option(0, 0))}, api.ErrForm},
		{[]api.Node{leaf(0, 0), node(0, 3, option(2, 0, 0))}, api.OK},
	} {
		for _, y := range []call{right, {l: l, e: wrong.e, list: wrong.list}} {
			if y.s = spacetest.Space(1, x.nodes...); x.want != api.OK || len(y.list) == 0 {
				checkAll(t, y, x.want)
			}
		}
	}
}

// P32.1, P32.2, P32.4: examples and tuples that do not fit, in their order.
func TestExampleErrors(t *testing.T) {
	l, many := statetest.Sums(), statetest.ManyStates(2)
	s := spacetest.Space(1, spacetest.Leaf(0, 0))
	one, text, tooGreat := value.OfInt(1), value.OfText("a"), value.OfInt(api.MaxInt+1)
	for i, x := range []struct {
		l                   api.Language
		s                   api.Space
		e                   api.Example
		example, ofOutcomes api.Errno
	}{
		{l, s, api.Example{Output: one}, api.ErrSize, api.ErrSize},
		{l, s, api.Example{Inputs: []api.Value{one, one}, Output: text}, api.ErrSize, api.ErrSize},
		{l, s, api.Example{Inputs: []api.Value{text}, Output: tooGreat}, api.ErrType, api.ErrType},
		{l, s, api.Example{Inputs: []api.Value{tooGreat}, Output: text}, api.ErrRange, api.ErrRange},
		{l, s, api.Example{Inputs: []api.Value{{Type: api.Int, Text: "a"}}, Output: one}, api.ErrForm, api.ErrForm},
		{l, s, api.Example{Inputs: []api.Value{one}, Output: tooGreat}, api.ErrRange, api.OK},
		{l, s, api.Example{Inputs: []api.Value{one}, Output: text}, api.ErrType, api.OK},
		{l, s, api.Example{Inputs: []api.Value{one}}, api.ErrType, api.OK},
		{l, s, api.Example{Inputs: []api.Value{one}, Output: one}, api.OK, api.OK},
		// Errors of limits come last.
		{many, statetest.Whole(many, 3), api.Example{Output: text}, api.ErrType, api.ErrLimit},
		{many, statetest.Whole(many, 3), api.Example{Inputs: []api.Value{one}, Output: one}, api.ErrSize, api.ErrSize},
		{many, statetest.Apart(2, 0), api.Example{Output: tooGreat}, api.ErrRange, api.ErrLimit},
	} {
		y := callOf(x.l, x.s, x.e)
		want := api.OK
		if len(x.s.Nodes) > 10 {
			want = api.ErrLimit
		}
		if checkErrors(t, y, x.example, x.example, want, x.ofOutcomes); t.Failed() {
			t.Fatalf("case %d", i)
		}
	}
}

// P32.2: specifications that do not fit, in their order.
func TestSpecErrors(t *testing.T) {
	l, many := statetest.Sums(), statetest.ManyStates(2)
	leaf, whole := spacetest.Space(1, spacetest.Leaf(0, 0)), statetest.Whole(many, 3)
	one, good := axes(1, statetest.Numbers(1)), []api.Example{number(1, 1)}
	wrong := api.Formula{Kind: api.FormEqual, Left: output(), Right: constant(value.OfText("a"))}
	for i, x := range []struct {
		l    api.Language
		s    api.Space
		p    api.Spec
		want api.Errno
	}{
		{l, leaf, api.Spec{Examples: good, Formula: always(), Domain: one}, api.OK},
		{l, leaf, api.Spec{Examples: slices.Repeat(good, api.MaxExamples), Formula: always(), Domain: one}, api.OK},
		{l, leaf, api.Spec{Examples: slices.Repeat(good, api.MaxExamples+1)}, api.ErrSize},
		{l, leaf, api.Spec{Examples: []api.Example{number(1, 1), number(1, 2)}}, api.ErrConflict},
		{l, leaf, api.Spec{Examples: good}, api.ErrForm},
		{l, leaf, api.Spec{Examples: good, Formula: wrong}, api.ErrType},
		{l, leaf, api.Spec{Formula: always()}, api.ErrSize},
		{l, leaf, api.Spec{Formula: always(), Domain: axes(2, nil)}, api.ErrSize},
		{l, leaf, api.Spec{Formula: always(), Domain: api.Domain{Axes: [][]api.Value{{value.OfText("a")}}}}, api.ErrType},
		{l, leaf, api.Spec{Formula: always(), Domain: api.Domain{Axes: [][]api.Value{{value.OfInt(1), value.OfInt(1)}}}}, api.ErrTwice},
		{l, leaf, api.Spec{Formula: always(), Domain: api.Domain{Axes: [][]api.Value{integers(api.MaxDomain)}}}, api.OK},
		{l, leaf, api.Spec{Formula: always(), Domain: api.Domain{Axes: [][]api.Value{integers(api.MaxDomain + 1)}}}, api.ErrMany},
		// Errors of limits come last.
		{many, whole, api.Spec{Formula: wrong}, api.ErrType},
		{many, whole, api.Spec{Formula: always(), Domain: one}, api.ErrSize},
		{many, whole, api.Spec{Formula: always()}, api.ErrLimit},
		{many, whole, api.Spec{Formula: api.Formula{Kind: api.FormFalse}}, api.ErrLimit},
	} {
		if s, e := refine.Require(x.l, x.s, x.p); e != x.want || e != api.OK && !spacetest.IsZero(s) {
			t.Errorf("case %d: %v, %d, not %d", i, s, e, x.want)
		}
	}
}

// integers returns the numbers from 0 on.
func integers(count int) []api.Value {
	var list []api.Value
	for i := range count {
		list = append(list, value.OfInt(int64(i)))
	}
	return list
}

// P32.1, P32.2, P32.4: exactly as many states and options as the limits permit, and one more. Nodes count that no root needs.
func TestLimits(t *testing.T) {
	for i, x := range statetest.Limits() {
		if len(x.Tuples) == 0 {
			continue
		}
		whole := statetest.Whole(x.Language, x.Most)
		for _, roots := range [][]int{whole.Roots, whole.Roots[:1]} {
			s := api.Space{Nodes: whole.Nodes, Roots: roots}
			want := api.OK
			if x.States > api.MaxNodes || x.Options > api.MaxOptions {
				want = api.ErrLimit
			}
			for _, n := range []int64{1, 987654} {
				if checkErrors(t, callOf(x.Language, s, api.Example{Output: value.OfInt(n)}), want, want, api.OK, want); t.Failed() {
					t.Fatalf("case %d", i)
				}
			}
		}
	}
	// The subset graph is as large as the limits permit, and one larger.
	for leftOut, want := range []api.Errno{api.ErrLimit, api.OK} {
		checkAll(t, callOf(statetest.ManyStates(2), statetest.Apart(2, leftOut), api.Example{Output: value.OfInt(1)}), want)
	}
}

// P32.1, P32.2, P32.4: tuples on which programs have few outcomes, and many. All examples and all tuples of the domain count.
func TestLimitsOfTuples(t *testing.T) {
	l := statetest.Included("strings")
	s := statetest.Whole(l, 8)
	plain, rich := []api.Value{value.OfText("")}, []api.Value{value.OfText("ada lovelace")}
	list := func(tuples ...[]api.Value) []api.Example {
		var examples []api.Example
		for _, tuple := range tuples {
			examples = append(examples, api.Example{Inputs: tuple, Output: tuple[0]})
		}
		return examples
	}
	checkErrors(t, callOf(l, s, list(plain)[0]), api.OK, api.OK, api.OK, api.OK)
	checkErrors(t, callOf(l, s, list(rich)[0]), api.ErrLimit, api.ErrLimit, api.OK, api.ErrLimit)
	for i, x := range []struct {
		p    api.Spec
		want api.Errno
	}{
		{api.Spec{Domain: axes(1, nil)}, api.OK},
		{api.Spec{Domain: axes(1, [][]api.Value{plain})}, api.OK},
		{api.Spec{Examples: list(plain), Domain: axes(1, [][]api.Value{plain})}, api.OK},
		{api.Spec{Examples: list(plain, rich), Domain: axes(1, nil)}, api.ErrLimit},
		{api.Spec{Examples: list(rich, plain), Domain: axes(1, nil)}, api.ErrLimit},
		{api.Spec{Examples: list(plain), Domain: axes(1, [][]api.Value{rich})}, api.ErrLimit},
		{api.Spec{Domain: axes(1, [][]api.Value{plain, rich})}, api.ErrLimit},
	} {
		x.p.Formula = always()
		if got, e := refine.Require(l, s, x.p); e != x.want || spacetest.IsZero(got) != (e != api.OK) {
			t.Errorf("case %d: %d nodes, %d", i, len(got.Nodes), e)
		}
	}
}

// checkForbid checks that Forbid returns an error, and nothing else with it.
func checkForbid(t *testing.T, l api.Language, s api.Space, list []api.Term, want api.Errno) {
	t.Helper()
	if rest, e := refine.Forbid(l, s, list); e != want || e != api.OK && !spacetest.IsZero(rest) {
		t.Errorf("%d nodes, %d, not %d", len(rest.Nodes), e, want)
	}
}

// chain returns a term with so many rules above a leaf.
func chain(rule, count int, leaf api.Term) api.Term {
	for range count {
		leaf = api.Term{Rule: rule, Args: []api.Term{leaf}}
	}
	return leaf
}

// P32.3: lists that are too long, and elements that are no derivations, before those that are too large.
func TestForbidErrors(t *testing.T) {
	// The rules: in0, 1000000, add(S, A), neg(S), and for A in0, 1000000, mul(A, S).
	l, s := statetest.Overflow(), spacetest.Space(1, spacetest.Leaf(0, 0))
	leaf := api.Term{}
	broad := leaf
	for range 11 {
		broad = api.Term{Rule: 2, Args: []api.Term{broad, {Rule: 6, Args: []api.Term{{Rule: 4}, broad}}}}
	}
	loop := []api.Term{{Rule: 3}}
	loop[0].Args = loop
	large := chain(3, api.MaxSize, leaf)
	for i, x := range []struct {
		list []api.Term
		want api.Errno
	}{
		{nil, api.OK},
		{[]api.Term{leaf, {Rule: 4}, leaf}, api.OK},
		{slices.Repeat([]api.Term{leaf}, api.MaxTerms), api.OK},
		{slices.Repeat([]api.Term{leaf}, api.MaxTerms+1), api.ErrSize},
		{slices.Repeat([]api.Term{{Rule: 9}}, api.MaxTerms+1), api.ErrSize},
		{slices.Repeat([]api.Term{large}, api.MaxTerms+1), api.ErrSize},
		{[]api.Term{{Rule: -1}}, api.ErrForm},
		{[]api.Term{{Rule: 7}}, api.ErrForm},
		{[]api.Term{{Rule: math.MinInt}}, api.ErrForm},
		{[]api.Term{{Rule: math.MaxInt}}, api.ErrForm},
		{[]api.Term{{Rule: 3}}, api.ErrForm},
		{[]api.Term{{Args: []api.Term{leaf}}}, api.ErrForm},
		{[]api.Term{chain(3, 1, api.Term{Rule: 4})}, api.ErrForm},
		{[]api.Term{chain(3, 1, api.Term{Rule: 9})}, api.ErrForm},
		{[]api.Term{leaf, leaf, {Rule: -1}}, api.ErrForm},
		{[]api.Term{chain(3, api.MaxSize-1, leaf)}, api.OK},
		{[]api.Term{large}, api.ErrLimit},
		{[]api.Term{chain(3, api.MaxDepth-1, leaf)}, api.ErrLimit},
		{[]api.Term{chain(3, api.MaxDepth, leaf)}, api.ErrForm},
		{[]api.Term{broad}, api.ErrForm},
		{[]api.Term{large, {Rule: -1}}, api.ErrForm},
		{[]api.Term{large, loop[0]}, api.ErrForm},
		{[]api.Term{loop[0]}, api.ErrForm},
	} {
		if checkForbid(t, l, s, x.list, x.want); t.Failed() {
			t.Fatalf("case %d", i)
		}
	}
}

// P32.3: lists with as many different subterms as the limits permit, and one more, and so for the subset graph of both version spaces.
func TestForbidLimits(t *testing.T) {
	const leaves, letters = 2, 63
	l := statetest.ManyStates(leaves)
	l.Rules = append(l.Rules, statetest.Op(2, "upper", 2))
	var list, pairs []api.Term
	for i := range letters {
		list = append(list, chain(leaves+letters, 1, api.Term{Rule: leaves + i}))
		for k := range letters {
			pairs = append(pairs, api.Term{Rule: leaves + letters + 1, Args: []api.Term{{Rule: leaves + i}, {Rule: leaves + k}}})
		}
	}
	list = append(list, pairs...)
	none := api.Space{}
	checkForbid(t, l, none, append(list, api.Term{}), api.OK)
	checkForbid(t, l, none, append(list, api.Term{}, api.Term{}), api.OK)
	checkForbid(t, l, none, append(list, api.Term{}, api.Term{Rule: 1}), api.ErrLimit)
	// Terms of the version space add no states, and another one does.
	for leftOut, want := range []api.Errno{api.ErrLimit, api.ErrLimit, api.OK} {
		checkForbid(t, statetest.ManyStates(3), statetest.Apart(3, leftOut+1), []api.Term{{Rule: 2}}, want)
	}
	checkForbid(t, statetest.ManyStates(3), statetest.Apart(3, 2), []api.Term{{Rule: 0}}, api.OK)
	// The canonical version space of the pairs has few nodes. With a state for each pair there would be too many.
	s := api.Space{Nodes: statetest.Apart(leaves, leaves).Nodes[:2*letters]}
	all := api.Node{Symbol: 3, Size: 3}
	for i := range letters {
		s.Nodes = append(s.Nodes, spacetest.Node(2, 3, spacetest.Option(leaves+letters+2, letters+i)))
		for k := range letters {
			all.Options = append(all.Options, spacetest.Option(leaves+letters+1, i, k))
		}
	}
	s.Nodes = append(s.Nodes, all)
	s.Roots = spacetest.Numbers(0, len(s.Nodes)-1)
	rest, e := refine.Forbid(l, s, pairs[1:])
	if n, f := tally.Count(rest); e != api.OK || f != api.OK || n != 3*letters+1 {
		t.Error(n, e, f)
	}
}
