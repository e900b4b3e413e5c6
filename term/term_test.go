package term_test

import (
	"cmp"
	"math"
	"slices"
	"testing"

	"synthesis/api"
	"synthesis/term"
)

// P13.2: all terms of any form with few rules.
func TestMeasures(t *testing.T) {
	for _, x := range formsUpTo(5, -2, 0, 13) {
		want := read(write(x))
		if n := term.Size(x); n != len(want.rules) {
			t.Fatalf("Size of %s is %d", write(x), n)
		}
		if n := term.Depth(x); n != want.depth {
			t.Fatalf("Depth of %s is %d", write(x), n)
		}
		if l := term.Rules(x); !slices.Equal(l, want.rules) {
			t.Fatalf("Rules of %s are %v", write(x), l)
		}
	}
}

// P13.2: the example, large terms, and rules that are the indices of none.
func TestMeasuresOfLarge(t *testing.T) {
	for i, x := range []struct {
		t           api.Term
		size, depth int
	}{
		{node(1, leaf(0), leaf(0)), 3, 2},
		{api.Term{Args: []api.Term{}}, 1, 1},
		{leaf(math.MinInt), 1, 1},
		{tree(1, 16), 1<<16 - 1, 16},
		{chain(2, 1<<16-1, leaf(0)), 1 << 16, 1 << 16},
		{node(3, make([]api.Term, 1<<16)...), 1<<16 + 1, 2},
		{node(1, chain(2, 100, leaf(0)), tree(1, 10)), 1125, 102},
		{node(1, tree(1, 10), chain(2, 100, leaf(0))), 1125, 102},
	} {
		if n := term.Size(x.t); n != x.size {
			t.Errorf("case %d: Size is %d, not %d", i, n, x.size)
		}
		if n := term.Depth(x.t); n != x.depth {
			t.Errorf("case %d: Depth is %d, not %d", i, n, x.depth)
		}
		if l := term.Rules(x.t); len(l) != x.size || l[0] != x.t.Rule {
			t.Errorf("case %d: Rules are %d", i, len(l))
		}
		if c := term.Compare(x.t, x.t); c != 0 {
			t.Errorf("case %d: Compare is %d", i, c)
		}
	}
	if l := term.Rules(node(math.MaxInt, leaf(math.MinInt))); !slices.Equal(l, []int{math.MaxInt, math.MinInt}) {
		t.Error(l)
	}
}

// P13.3, P13.7: all pairs of terms of any form with few rules.
func TestCompare(t *testing.T) {
	all := formsUpTo(4, -1, 0, 10)
	texts := make([]written, len(all))
	for i, x := range all {
		texts[i] = read(write(x))
	}
	for i, x := range all {
		for k, y := range all {
			v, w := texts[i], texts[k]
			want := cmp.Or(cmp.Compare(len(v.rules), len(w.rules)), slices.Compare(v.rules, w.rules), slices.Compare(v.args, w.args))
			if c := term.Compare(x, y); c != want || (c == 0) != (i == k) {
				t.Fatalf("Compare of %s and %s is %d, not %d", write(x), write(y), c, want)
			}
		}
	}
}

// P13.3: each of these comes before the next one.
func TestCompareOrder(t *testing.T) {
	ascending := []api.Term{
		leaf(math.MinInt),
		leaf(-1),
		leaf(0),
		leaf(2),
		leaf(10),
		leaf(math.MaxInt),
		// A smaller size comes first, whatever the rules are.
		node(math.MinInt, leaf(0)),
		node(0, leaf(math.MaxInt)),
		node(1, leaf(0)),
		// The rules come before the numbers of arguments, of which the root has the first one.
		node(0, node(0, leaf(0))),
		node(0, leaf(0), leaf(0)),
		node(0, node(0, leaf(1))),
		node(0, leaf(0), leaf(1)),
		node(0, leaf(1), leaf(0)),
		node(0, node(0, node(0, leaf(0)))),
		node(0, node(0, leaf(0), leaf(0))),
		node(0, leaf(0), node(0, leaf(0))),
		node(0, node(0, leaf(0)), leaf(0)),
		node(0, leaf(0), leaf(0), leaf(0)),
		chain(0, 1<<16-1, leaf(0)),
		chain(0, 1<<16-1, leaf(1)),
	}
	for i, x := range ascending {
		for k, y := range ascending {
			if c := term.Compare(x, y); c != cmp.Compare(i, k) {
				t.Errorf("Compare of %d and %d is %d", i, k, c)
			}
		}
	}
	if c := term.Compare(api.Term{Rule: 1, Args: []api.Term{}}, leaf(1)); c != 0 {
		t.Error("nil and empty arguments are different:", c)
	}
}

// P13.3: the order of terms is that of layer 12.
func TestCompareOfDerived(t *testing.T) {
	for _, l := range []api.Language{sums(), choices()} {
		for symbol := range l.Symbols {
			all := derived(l, symbol, 8)
			for i := range all {
				if i > 0 && term.Compare(all[i-1], all[i]) != -1 {
					t.Fatalf("%s does not precede %s", write(all[i-1]), write(all[i]))
				}
			}
		}
	}
}

// subtexts adds the texts of t and of all subterms of its arguments to found.
func subtexts(t api.Term, found map[string]api.Term) {
	found[write(t)] = t
	for _, arg := range t.Args {
		subtexts(arg, found)
	}
}

// P13.6, P13.7: all terms of any form with few rules, and the example.
func TestSubterms(t *testing.T) {
	in := leaf(0)
	example := node(1, in, in)
	if l := term.Subterms(example); len(l) != 2 || term.Compare(l[0], in) != 0 || term.Compare(l[1], example) != 0 {
		t.Errorf("the subterms of the example are %v", l)
	}
	all := append(formsUpTo(5, -1, 0, 1), tree(1, 11), chain(2, 300, leaf(0)), node(1, tree(1, 5), tree(1, 5), tree(2, 4)), node(3, make([]api.Term, 5000)...))
	for _, x := range all {
		want := map[string]api.Term{}
		subtexts(x, want)
		got := term.Subterms(x)
		if len(got) != len(want) {
			t.Fatalf("%s has %d subterms, not %d", write(x), len(got), len(want))
		}
		for i, y := range got {
			if _, isSubterm := want[write(y)]; !isSubterm {
				t.Fatalf("%s is no subterm of %s", write(y), write(x))
			}
			if i > 0 && term.Compare(got[i-1], y) != -1 {
				t.Fatalf("the subterms %d and %d of %s are %s and %s", i-1, i, write(x), write(got[i-1]), write(y))
			}
		}
		if last := got[len(got)-1]; term.Compare(last, x) != 0 {
			t.Fatalf("the last subterm of %s is %s", write(x), write(last))
		}
	}
}

// P13.6: inputs of valid languages and of others, in terms of any form.
func TestUses(t *testing.T) {
	l := choices()
	// The fields of the last rules are not as their kind demands, and no rule has a symbol.
	broken := api.Language{Rules: []api.Rule{input(-5, 7), input(9, -1), {Kind: api.RuleConst, Input: 2}, {Kind: 9, Input: 3}, {Input: 4}, {Kind: api.RuleInput, Input: 5, Op: "x", Args: []int{8}}}}
	for i, x := range []struct {
		l     api.Language
		t     api.Term
		input int
		want  bool
	}{
		{l, leaf(2), 0, true},
		{l, leaf(2), 1, false},
		{l, leaf(4), 0, false},
		{l, leaf(4), 1, true},
		{l, leaf(5), 0, false},
		{l, node(0, leaf(2)), 0, true},
		{l, node(3, leaf(4), node(0, leaf(2))), 0, true},
		{l, node(3, leaf(4), node(0, leaf(2))), 1, true},
		{l, node(3, leaf(4), leaf(4)), 0, false},
		{l, node(3, leaf(4), leaf(4)), 2, false},
		{l, node(3, leaf(4), leaf(4)), -1, false},
		// A rule with an operator has the zero value as its input.
		{l, leaf(0), 0, false},
		{l, node(3, leaf(0), leaf(1)), 0, false},
		// Terms of any form.
		{l, node(5, leaf(5), leaf(-1), node(7, leaf(2))), 0, true},
		{l, leaf(-1), 0, false},
		{l, leaf(6), 0, false},
		{l, leaf(math.MinInt), 0, false},
		{l, leaf(math.MaxInt), math.MaxInt, false},
		{l, node(2, leaf(9)), 0, true},
		{api.Language{}, leaf(0), 0, false},
		{broken, leaf(0), 7, true},
		{broken, leaf(0), 0, false},
		{broken, leaf(1), -1, true},
		{broken, leaf(2), 2, false},
		{broken, leaf(3), 3, false},
		{broken, leaf(4), 4, false},
		{broken, leaf(5), 5, true},
		{l, chain(0, 1<<16-1, leaf(2)), 0, true},
		{l, chain(0, 1<<16-1, leaf(4)), 0, false},
	} {
		if got := term.Uses(x.l, x.t, x.input); got != x.want {
			t.Errorf("case %d: Uses of input %d is %t", i, x.input, got)
		}
	}
}
