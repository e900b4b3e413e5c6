package eval_test

import (
	"strings"
	"testing"

	"synthesis/api"
	"synthesis/eval"
	"synthesis/term"
	"synthesis/value"
)

// P15.2, P15.3, P15.4, P15.6: all small terms of all symbols.
func TestOutcomes(t *testing.T) {
	for _, x := range families() {
		defined, undefined := 0, 0
		for symbol, s := range x.l.Symbols {
			for _, y := range derived(x.l, symbol, 5) {
				outcomes, e := eval.Outcomes(x.l, y, x.tuples)
				if e != api.OK || len(outcomes) != len(x.tuples) {
					t.Fatalf("%s: Outcomes of %v is %v, %d", x.l.Name, term.Rules(y), outcomes, e)
				}
				for i, tuple := range x.tuples {
					checkOutcome(t, x.l, y, tuple, outcomes[i])
					switch {
					case outcomes[i].Errno != api.OK:
						undefined++
					case value.Check(outcomes[i].Value) != api.OK || outcomes[i].Value.Type != s.Type:
						t.Fatalf("%s: %v is %v", x.l.Name, term.Rules(y), outcomes[i].Value)
					default:
						defined++
					}
				}
			}
		}
		if defined == 0 || (undefined == 0) != (x.l.Name == "constants") {
			t.Errorf("%s: %d outcomes are defined, and %d are not", x.l.Name, defined, undefined)
		}
	}
}

// checkOutcome checks that the outcome of a term is the one of its definition, and what Run and Trace return.
func checkOutcome(t *testing.T, l api.Language, y api.Term, tuple []api.Value, got api.Outcome) {
	t.Helper()
	want := traced(l, y, tuple)
	if !isSame(got, want[0]) {
		t.Fatalf("%s: the outcome of %v on %v is %v", l.Name, term.Rules(y), tuple, got)
	}
	if v, e := eval.Run(l, y, tuple); !isSame(api.Outcome{Value: v, Errno: e}, got) {
		t.Fatalf("%s: Run of %v on %v is %v, %d", l.Name, term.Rules(y), tuple, v, e)
	}
	if trace, e := eval.Trace(l, y, tuple); e != api.OK || !areSame(trace, want) {
		t.Fatalf("%s: Trace of %v on %v is %v, %d", l.Name, term.Rules(y), tuple, trace, e)
	}
}

// P15.2, P15.4: values and traces that are known.
func TestKnownOutcomes(t *testing.T) {
	undefined := api.Outcome{Errno: api.ErrUndefined}
	is := func(v api.Value) api.Outcome { return api.Outcome{Value: v} }
	number := func(n int64) api.Outcome { return is(value.OfInt(n)) }
	text := func(s string) api.Outcome { return is(value.OfText(s)) }
	two := []api.Value{value.OfInt(2)}
	words := []api.Value{value.OfText("a bc"), value.OfInt(1)}
	collections := []api.Value{value.OfTable([][]string{{"x", "y"}}), value.OfInts([]int64{7}), value.OfTexts([]string{"q"}), value.OfBits(15)}
	for i, x := range []struct {
		l     api.Language
		text  string
		tuple []api.Value
		want  []api.Outcome
	}{
		{sums(), "in0", two, []api.Outcome{number(2)}},
		{sums(), "1000000", two, []api.Outcome{number(1000000)}},
		{sums(), "add(in0, in0)", two, []api.Outcome{number(4), number(2), number(2)}},
		{sums(), "add(in0, 1000000)", two, []api.Outcome{undefined, number(2), number(1000000)}},
		{sums(), "neg(add(1000000, 1000000))", two, []api.Outcome{undefined, undefined, number(1000000), number(1000000)}},
		{sums(), "add(add(in0, 1000000), neg(in0))", two, []api.Outcome{undefined, undefined, number(2), number(1000000), number(-2), number(2)}},
		{sums(), "add(1000000, neg(in0))", two, []api.Outcome{number(999998), number(1000000), number(-2), number(2)}},
		{choices(), "in1", words, []api.Outcome{number(1)}},
		{choices(), "true", words, []api.Outcome{is(value.OfBool(true))}},
		{choices(), "word(in0, in1)", words, []api.Outcome{text("bc"), text("a bc"), number(1)}},
		{choices(), "len(word(in0, -1))", words, []api.Outcome{number(2), text("bc"), text("a bc"), number(-1)}},
		{choices(), "less(-1, in1)", words, []api.Outcome{is(value.OfBool(true)), number(-1), number(1)}},
		{choices(), "less(in1, -1)", words, []api.Outcome{is(value.OfBool(false)), number(1), number(-1)}},
		// Both branches are evaluated, and the one that does not count must be defined, too.
		{choices(), "iftext(true, in0, word(in0, len(in0)))", words,
			[]api.Outcome{undefined, is(value.OfBool(true)), text("a bc"), undefined, text("a bc"), number(4), text("a bc")}},
		{mixture(), "in0", collections, []api.Outcome{is(collections[0])}},
		{mixture(), "in1", collections, []api.Outcome{is(collections[1])}},
		{mixture(), "in2", collections, []api.Outcome{is(collections[2])}},
		{mixture(), "in3", collections, []api.Outcome{is(collections[3])}},
		{mixture(), "ones(in3)", collections, []api.Outcome{number(4), is(value.OfBits(15))}},
		{mixture(), "row(in0, 0)", collections, []api.Outcome{is(value.OfTexts([]string{"x", "y"})), is(collections[0]), number(0)}},
		{constants(), `concat("ab", "ab")`, nil, []api.Outcome{text("abab"), text("ab"), text("ab")}},
	} {
		y := program(x.l, x.text)
		v, e := eval.Run(x.l, y, x.tuple)
		if !isSame(api.Outcome{Value: v, Errno: e}, x.want[0]) {
			t.Errorf("case %d: Run is %v, %d", i, v, e)
		}
		if trace, e := eval.Trace(x.l, y, x.tuple); e != api.OK || !areSame(trace, x.want) {
			t.Errorf("case %d: Trace is %v, %d", i, trace, e)
		}
		if o, e := eval.Outcomes(x.l, y, [][]api.Value{x.tuple, x.tuple}); e != api.OK || !areSame(o, []api.Outcome{x.want[0], x.want[0]}) {
			t.Errorf("case %d: Outcomes is %v, %d", i, o, e)
		}
	}
}

// P15.3: the outcomes are in the order of the tuples, and an undefined one is no error.
func TestOutcomesOrder(t *testing.T) {
	y := program(sums(), "add(in0, 1000000)")
	tuples := [][]api.Value{{value.OfInt(1)}, {value.OfInt(-1)}, {value.OfInt(0)}, {value.OfInt(1)}, {value.OfInt(-5)}}
	want := []api.Outcome{{Errno: api.ErrUndefined}, {Value: value.OfInt(999999)}, {Value: value.OfInt(1000000)}, {Errno: api.ErrUndefined}, {Value: value.OfInt(999995)}}
	if got, e := eval.Outcomes(sums(), y, tuples); e != api.OK || !areSame(got, want) {
		t.Error(got, e)
	}
	for _, tuples := range [][][]api.Value{nil, {}} {
		if got, e := eval.Outcomes(sums(), y, tuples); e != api.OK || len(got) != 0 {
			t.Error(got, e)
		}
	}
}

// P15.2, P15.4: terms at the limits.
func TestLargeTerms(t *testing.T) {
	l := sums()
	one := []api.Value{value.OfInt(1)}
	deep := program(l, strings.Repeat("neg(", api.MaxDepth-1)+"in0"+strings.Repeat(")", api.MaxDepth-1))
	if v, e := eval.Run(l, deep, one); e != api.OK || !value.Equal(v, value.OfInt(-1)) {
		t.Error(v, e)
	}
	if trace, e := eval.Trace(l, deep, one); e != api.OK || len(trace) != api.MaxDepth || trace[30].Value.Num != -1 || trace[31].Value.Num != 1 {
		t.Error(trace, e)
	}
	large := node(3, tree(2, 12))
	if v, e := eval.Run(l, large, one); e != api.OK || !value.Equal(v, value.OfInt(-2048)) {
		t.Error(v, e)
	}
	if trace, e := eval.Trace(l, large, one); e != api.OK || len(trace) != api.MaxTerms || trace[0].Value.Num != -2048 || trace[2].Value.Num != 1024 {
		t.Error(len(trace), e)
	}
	if _, e := eval.Run(l, node(3, large), one); e != api.ErrSize {
		t.Error(e)
	}
}

// P15.6: a subterm may be replaced by one with the same outcome.
func TestReplacedSubterms(t *testing.T) {
	for _, x := range families() {
		count := 0
		for symbol := range x.l.Symbols {
			for _, y := range derived(x.l, symbol, 4) {
				for _, tuple := range x.tuples {
					count += checkReplaced(t, x.l, y, tuple)
				}
			}
		}
		if count == 0 && x.l.Name != "constants" {
			t.Errorf("%s: nothing is replaced", x.l.Name)
		}
	}
}

// checkReplaced replaces each argument of y by all small terms of its symbol with the same outcome. It returns how many terms result.
func checkReplaced(t *testing.T, l api.Language, y api.Term, tuple []api.Value) int {
	t.Helper()
	count := 0
	trace, _ := eval.Trace(l, y, tuple)
	place := 1
	for i, arg := range y.Args {
		for _, other := range derived(l, l.Rules[y.Rule].Args[i], 2) {
			v, e := eval.Run(l, other, tuple)
			if !isSame(api.Outcome{Value: v, Errno: e}, trace[place]) || term.Compare(other, arg) == 0 {
				continue
			}
			count++
			replaced, _ := term.Replace(y, []int{i}, other)
			if v, e := eval.Run(l, replaced, tuple); !isSame(api.Outcome{Value: v, Errno: e}, trace[0]) {
				t.Fatalf("%s: %v on %v is %v, %d", l.Name, term.Rules(replaced), tuple, v, e)
			}
		}
		place += term.Size(arg)
	}
	return count
}
