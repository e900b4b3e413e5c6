package eval_test

import (
	"math"
	"strings"
	"testing"

	"synthesis/api"
	"synthesis/eval"
	"synthesis/grammar"
	"synthesis/value"
)

// P15.1: tuples that fit, and the errors of others.
func TestInputs(t *testing.T) {
	n, s := value.OfInt(1), value.OfText("a")
	tooGreat, wrongByte, tooLong, noType := value.OfInt(api.MaxInt+1), value.OfText("\n"), value.OfText(strings.Repeat("a", api.MaxText+1)), api.Value{}
	hasNum := api.Value{Type: api.Text, Num: 1}
	for i, x := range []struct {
		l     api.Language
		tuple []api.Value
		want  api.Errno
	}{
		{sums(), []api.Value{n}, api.OK},
		{sums(), []api.Value{value.OfInt(-api.MaxInt)}, api.OK},
		{sums(), nil, api.ErrSize},
		{sums(), []api.Value{}, api.ErrSize},
		{sums(), []api.Value{n, n}, api.ErrSize},
		{sums(), []api.Value{noType, noType}, api.ErrSize},
		{sums(), []api.Value{tooGreat}, api.ErrRange},
		{sums(), []api.Value{noType}, api.ErrType},
		{sums(), []api.Value{{Type: 9, Num: 1}}, api.ErrType},
		{sums(), []api.Value{s}, api.ErrType},
		{sums(), []api.Value{value.OfBits(1)}, api.ErrType},
		{sums(), []api.Value{value.OfBool(true)}, api.ErrType},
		// The value's own error comes before that of its type.
		{sums(), []api.Value{wrongByte}, api.ErrRange},
		{sums(), []api.Value{hasNum}, api.ErrForm},
		{sums(), []api.Value{tooLong}, api.ErrSize},
		{choices(), []api.Value{s, n}, api.OK},
		{choices(), []api.Value{s}, api.ErrSize},
		{choices(), []api.Value{s, n, n}, api.ErrSize},
		{choices(), []api.Value{n, s}, api.ErrType},
		{choices(), []api.Value{s, s}, api.ErrType},
		// The first value that has an error counts.
		{choices(), []api.Value{n, tooGreat}, api.ErrType},
		{choices(), []api.Value{wrongByte, noType}, api.ErrRange},
		{choices(), []api.Value{hasNum, tooGreat}, api.ErrForm},
		{choices(), []api.Value{s, tooGreat}, api.ErrRange},
		{choices(), []api.Value{s, tooLong}, api.ErrSize},
		{mixture(), families()[2].tuples[0], api.OK},
		{mixture(), families()[2].tuples[5], api.OK},
		{mixture(), append([]api.Value{value.OfTexts(nil)}, families()[2].tuples[0][1:]...), api.ErrType},
		{constants(), nil, api.OK},
		{constants(), []api.Value{}, api.OK},
		{constants(), []api.Value{n}, api.ErrSize},
	} {
		if e := eval.Inputs(x.l, x.tuple); e != x.want {
			t.Errorf("case %d: %d, not %d", i, e, x.want)
		}
		checkAll(t, x.l, leaf(inputRule(x.l)), x.tuple, x.want)
	}
	for _, l := range invalid() {
		for _, tuple := range [][]api.Value{nil, {n}, {noType}} {
			if e := eval.Inputs(l, tuple); e == api.OK || e != grammar.Check(l) {
				t.Errorf("%v: %d", l, e)
			}
		}
	}
}

// inputRule returns a rule without arguments.
func inputRule(l api.Language) int {
	rule := 0
	for l.Rules[rule].Kind == api.RuleOp {
		rule++
	}
	return rule
}

// checkAll checks that Run, Outcomes and Trace return this error, and zero values with an error.
func checkAll(t *testing.T, l api.Language, y api.Term, tuple []api.Value, want api.Errno) {
	t.Helper()
	if v, e := eval.Run(l, y, tuple); e != want || isZero(v) != (e != api.OK) {
		t.Errorf("Run is %v, %d, not %d", v, e, want)
	}
	if trace, e := eval.Trace(l, y, tuple); e != want || (len(trace) == 0) != (e != api.OK) {
		t.Errorf("Trace is %v, %d, not %d", trace, e, want)
	}
	if o, e := eval.Outcomes(l, y, [][]api.Value{tuple}); e != want || (len(o) == 0) != (e != api.OK) {
		t.Errorf("Outcomes is %v, %d, not %d", o, e, want)
	}
}

// P15.2, P15.3, P15.4: the errors of a term come before those of the tuples.
func TestTermErrors(t *testing.T) {
	deep, deepFault := program(choices(), "word(in0, in1)"), leaf(-1)
	for range api.MaxDepth - 1 {
		deep, deepFault = node(0, deep), node(0, deepFault)
	}
	good, bad := families()[1].tuples[0], []api.Value{value.OfInt(1), {}}
	for i, x := range []struct {
		y    api.Term
		want api.Errno
	}{
		{leaf(-1), api.ErrRange},
		{leaf(8), api.ErrRange},
		{leaf(math.MinInt), api.ErrRange},
		{leaf(math.MaxInt), api.ErrRange},
		// The rule of the term itself is examined before its size.
		{node(8, deep), api.ErrRange},
		{node(-1, tree(6, 13)), api.ErrRange},
		{deep, api.ErrSize},
		{tree(6, 13), api.ErrSize},
		{node(0, deepFault), api.ErrSize},
		{node(0, leaf(9)), api.ErrRange},
		{node(0, leaf(-1)), api.ErrRange},
		{node(0, leaf(4)), api.ErrType},
		{node(6, leaf(4), leaf(9)), api.ErrType},
		{node(6, leaf(2), leaf(2)), api.ErrType},
		{node(6, leaf(9), leaf(2)), api.ErrRange},
		{leaf(0), api.ErrForm},
		{leaf(6), api.ErrForm},
		{node(6, leaf(2)), api.ErrForm},
		{node(6, leaf(2), leaf(4), leaf(4)), api.ErrForm},
		{node(2, leaf(2)), api.ErrForm},
		{node(7, leaf(7)), api.ErrForm},
		{node(0, node(6, leaf(2))), api.ErrForm},
	} {
		for _, tuple := range [][]api.Value{good, bad, nil} {
			checkAll(t, choices(), x.y, tuple, x.want)
			if t.Failed() {
				t.Fatalf("case %d", i)
			}
		}
		if o, e := eval.Outcomes(choices(), x.y, nil); e != x.want || len(o) > 0 {
			t.Errorf("case %d: Outcomes without tuples is %v, %d", i, o, e)
		}
	}
}

// P15.2, P15.3, P15.4: the error of the language comes first.
func TestLanguageErrors(t *testing.T) {
	for _, l := range invalid() {
		for _, y := range []api.Term{leaf(0), leaf(-1), leaf(9), leaf(2), tree(2, 13), node(2, leaf(7), leaf(0))} {
			for _, tuple := range [][]api.Value{{value.OfInt(1)}, nil, {{}}} {
				if grammar.Check(l) == api.OK {
					t.Fatal(l)
				}
				checkAll(t, l, y, tuple, grammar.Check(l))
			}
		}
	}
}

// P15.2, P15.3: the first tuple with an error counts, also before an undefined outcome.
func TestTupleErrors(t *testing.T) {
	n, tooGreat, wrongType := []api.Value{value.OfInt(1)}, []api.Value{value.OfInt(-api.MaxInt - 1)}, []api.Value{value.OfText("a")}
	overflow := program(sums(), "add(1000000, 1000000)")
	for i, x := range []struct {
		tuples [][]api.Value
		want   api.Errno
	}{
		{[][]api.Value{n, n}, api.OK},
		{[][]api.Value{n, nil, tooGreat}, api.ErrSize},
		{[][]api.Value{n, tooGreat, wrongType}, api.ErrRange},
		{[][]api.Value{wrongType, tooGreat, n}, api.ErrType},
		{[][]api.Value{n, n, n, wrongType}, api.ErrType},
	} {
		for _, y := range []api.Term{leaf(0), overflow} {
			o, e := eval.Outcomes(sums(), y, x.tuples)
			if e != x.want || (e == api.OK) != (len(o) == len(x.tuples)) || e != api.OK && len(o) > 0 {
				t.Errorf("case %d: %v, %d", i, o, e)
			}
		}
	}
	for _, tuple := range [][]api.Value{nil, tooGreat, wrongType} {
		checkAll(t, sums(), overflow, tuple, eval.Inputs(sums(), tuple))
	}
	if v, e := eval.Run(sums(), overflow, n); e != api.ErrUndefined || !isZero(v) {
		t.Error(v, e)
	}
}

// A term that contains itself has too many rules.
func TestEndlessTerm(t *testing.T) {
	args := make([]api.Term, 2)
	endless := api.Term{Rule: 2, Args: args}
	args[0], args[1] = endless, leaf(0)
	checkAll(t, sums(), endless, []api.Value{value.OfInt(1)}, api.ErrSize)
}
