package states_test

import (
	"slices"
	"testing"

	"synthesis/api"
	"synthesis/eval"
	"synthesis/graph"
	"synthesis/operator"
	"synthesis/spacetest"
	"synthesis/states"
	"synthesis/statetest"
	"synthesis/term"
	"synthesis/value"
)

// asSpace returns a version space with the states as its nodes.
func asSpace(list []states.State) api.Space {
	var s api.Space
	for i, x := range list {
		s.Nodes = append(s.Nodes, x.Node)
		s.Roots = append(s.Roots, i)
	}
	return s
}

// checkGraph compares a state graph with its definition.
func checkGraph(t *testing.T, l api.Language, tuples [][]api.Value, got []states.State, want statetest.Graph) {
	t.Helper()
	if len(got) != len(want.States) || !graph.AreWellFormed(asSpace(got)) {
		t.Fatalf("%s: %d states, not %d", l.Name, len(got), len(want.States))
	}
	options := 0
	for i, terms := range spacetest.Derived(asSpace(got)) {
		x := got[i]
		options += len(x.Options)
		all := want.States[statetest.Triple{Symbol: x.Symbol, Size: x.Size, Key: x.Key}]
		slices.SortFunc(terms, term.Compare)
		if len(all) == 0 || !slices.EqualFunc(terms, all, func(a, b api.Term) bool { return term.Compare(a, b) == 0 }) {
			t.Fatalf("%s: %d, %d, %q has the terms %v, not %v", l.Name, x.Symbol, x.Size, x.Key, terms, all)
		}
		if i > 0 && got[i-1].Size > x.Size {
			t.Fatalf("%s: the size %d is followed by %d", l.Name, got[i-1].Size, x.Size)
		}
		if len(x.Outcomes) != len(tuples) || eval.Key(x.Outcomes) != x.Key {
			t.Fatalf("%s: the key of %v is %q", l.Name, x.Outcomes, x.Key)
		}
	}
	if options != want.Options {
		t.Fatalf("%s: %d options, not %d", l.Name, options, want.Options)
	}
}

// All terms of some languages, for all first parts of the tuples.
func TestOf(t *testing.T) {
	for _, x := range statetest.Families() {
		for n := range len(x.Tuples) + 1 {
			for most := 1; most <= x.Most; most++ {
				got, e := states.Of(x.Language, x.Tuples[:n], most, states.Operators(x.Language))
				want := statetest.GraphOf(x.Language, x.Tuples[:n], most)
				if (e == api.OK) != want.IsWithinLimits() {
					t.Fatalf("%s: %d for %d states, %d options", x.Language.Name, e, len(want.States), want.Options)
				}
				if e == api.OK {
					checkGraph(t, x.Language, x.Tuples[:n], got, want)
				}
			}
		}
	}
}

// The operation gets valid arguments of the right types, and only where all of them are defined.
func TestOperation(t *testing.T) {
	for _, x := range statetest.Own() {
		calls := 0
		_, e := states.Of(x.Language, x.Tuples, 6, func(rule int, args []api.Value) api.Outcome {
			calls++
			o, _ := operator.Find(x.Language.Rules[rule].Op)
			for i, v := range args {
				if value.Check(v) != api.OK || v.Type != o.Args[i] {
					t.Fatalf("%s: the rule %d gets %v", x.Language.Name, rule, args)
				}
			}
			return states.Operators(x.Language)(rule, args)
		})
		if e != api.OK || calls == 0 && len(x.Language.Rules) > 0 {
			t.Errorf("%s: %d, %d calls", x.Language.Name, e, calls)
		}
	}
}

// Exactly as many states and options as the limits permit, and one more. Symbols count that the start symbol does not derive.
func TestLimits(t *testing.T) {
	for i, x := range statetest.Limits() {
		want := statetest.GraphOf(x.Language, x.Tuples, x.Most)
		if len(want.States) != x.States || want.Options != x.Options {
			t.Errorf("case %d: %d states, %d options", i, len(want.States), want.Options)
		}
		got, e := states.Of(x.Language, x.Tuples, x.Most, states.Operators(x.Language))
		if !want.IsWithinLimits() && (e != api.ErrLimit || len(got) > 0) {
			t.Errorf("case %d: %d states, %d", i, len(got), e)
		}
		if want.IsWithinLimits() {
			checkGraph(t, x.Language, x.Tuples, got, want)
		}
	}
}

// Rules with very many choices for some arguments and none for the last one, and then rules with very many options.
func TestVeryManyChoices(t *testing.T) {
	one := [][]api.Value{nil}
	plain, vain, many := statetest.ManyStates(1), statetest.ManyStates(1), statetest.ManyStates(1)
	vain.Symbols = append(vain.Symbols, api.Symbol{Name: "E", Type: api.Text})
	vain.Rules = append(vain.Rules, statetest.Op(3, "replace", 3, 3, 4))
	many.Rules = append(many.Rules, statetest.Op(3, "replace", 3, 3, 3), statetest.Op(2, "replace", 3, 3, 3))
	want, e := states.Of(plain, one, api.MaxSize, states.Operators(plain))
	if e != api.OK || len(want) != api.MaxNodes {
		t.Fatal(len(want), e)
	}
	if got, e := states.Of(vain, one, api.MaxSize, states.Operators(vain)); e != api.OK || !spacetest.Equal(asSpace(got), asSpace(want)) {
		t.Error(len(got), e)
	}
	if got, e := states.Of(many, one, 9, states.Operators(many)); e != api.OK || !spacetest.Equal(asSpace(got), asSpace(want)) {
		t.Error(len(got), e)
	}
	if got, e := states.Of(many, one, 10, states.Operators(many)); e != api.ErrLimit || len(got) > 0 {
		t.Error(len(got), e)
	}
}

func TestRequired(t *testing.T) {
	list := []api.Example{
		{Inputs: []api.Value{value.OfInt(1), value.OfText("a")}, Output: value.OfInts([]int64{1, 2})},
		{Output: value.OfInts(nil)},
	}
	tuples, key := states.Required(list)
	if len(tuples) != 2 || len(tuples[0]) != 2 || len(tuples[1]) != 0 || !value.Equal(tuples[0][1], value.OfText("a")) || key != "[1, 2]\n[]\n" {
		t.Error(tuples, key)
	}
	if tuples, key := states.Required(nil); len(tuples) > 0 || key != "" {
		t.Error(tuples, key)
	}
	if key := states.KeyOf([]api.Value{value.OfText("a"), value.OfBits(1)}); key != "\"a\"\n0x01\n" || states.KeyOf(nil) != "" {
		t.Error(key)
	}
}

// The rows of terms from those of their arguments, which are undefined where one of these is.
func TestRows(t *testing.T) {
	for _, x := range statetest.Own() {
		common := 0
		rows, known := states.RowsOf(x.Language, x.Tuples, states.Operators(x.Language)), map[string]states.Row{}
		for symbol := range x.Language.Symbols {
			for _, y := range statetest.OracleOf(x.Language).UpTo(symbol, 5) {
				row := rowOf(rows, y)
				if key := statetest.Key(x.Language, y, x.Tuples); row.Key != key || eval.Key(row.Outcomes) != key {
					t.Fatalf("%s: %v has the row %v, not %q", x.Language.Name, y, row, key)
				}
				// Terms with the same outcomes share them.
				if first, isKnown := known[row.Key]; isKnown && len(x.Tuples) > 0 {
					if common++; &first.Outcomes[0] != &row.Outcomes[0] {
						t.Fatalf("%s: %v has a row of its own", x.Language.Name, y)
					}
				}
				known[row.Key] = row
			}
		}
		if common == 0 && len(x.Language.Rules) > 0 {
			t.Errorf("%s: no common rows", x.Language.Name)
		}
	}
}

// rowOf returns the row of a term.
func rowOf(rows states.Rows, t api.Term) states.Row {
	var args []states.Row
	for _, arg := range t.Args {
		args = append(args, rowOf(rows, arg))
	}
	return rows.Of(t.Rule, args)
}

// Errors of a language come first, then those of tuples, then that of the bound.
func TestCheck(t *testing.T) {
	l, good := statetest.Sums(), statetest.Numbers(1, 2)
	for i, x := range []struct {
		tuples [][]api.Value
		most   int
		want   api.Errno
	}{
		{nil, 1, api.OK},
		{good, api.MaxSize, api.OK},
		{good, 0, api.ErrRange},
		{nil, -1, api.ErrRange},
		{good, api.MaxSize + 1, api.ErrRange},
		{append(good, nil), 0, api.ErrSize},
		{append(good, []api.Value{value.OfText("a")}, nil), 0, api.ErrType},
		{statetest.Numbers(1, api.MaxInt+1), 1, api.ErrRange},
	} {
		if e := states.Check(l, x.tuples, x.most); e != x.want {
			t.Errorf("case %d: %d, not %d", i, e, x.want)
		}
		for _, l := range statetest.Invalid() {
			if e := states.Check(l, x.tuples, x.most); e == api.OK || e != states.Check(l, nil, 1) {
				t.Errorf("case %d: %d", i, e)
			}
		}
	}
	for most := -1; most <= api.MaxSize+1; most++ {
		if e := states.CheckBound(most); (e == api.OK) != (1 <= most && most <= api.MaxSize) {
			t.Errorf("%d: %d", most, e)
		}
	}
}
