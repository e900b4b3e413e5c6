package bottomup_test

import (
	"slices"
	"testing"

	"synthesis/api"
	"synthesis/bottomup"
	"synthesis/statetest"
	"synthesis/term"
	"synthesis/value"
)

// manyOptions returns a language in which the terms up to the size 7 have 32767 options and fewer states, and each of the leaves, which are all terms of the start symbol, has one option more.
// The options have arguments of the size 2.
func manyOptions(leaves int) api.Language {
	l := api.Language{Name: "many-options", Symbols: statetest.Symbols(api.Int, api.Text, api.Text, api.Text, api.Int, api.Bool)}
	operators := []api.Rule{statetest.Op(3, "replace", 2, 2, 2), statetest.Op(3, "concat", 2, 2), statetest.Op(4, "find", 2, 2), statetest.Op(5, "eqtext", 2, 2), statetest.Op(2, "upper", 1), statetest.Op(4, "len", 2)}
	l.Rules = slices.Concat(statetest.ConstantRules(0, statetest.Integers(leaves)), statetest.ConstantRules(1, statetest.Letters(31)), operators)
	return l
}

// growing returns a language that has 59 new classes of each size for each of three symbols, but for small sizes. Up to the greatest size these are 4071. Each of the leaves, which are all terms of the start symbol, has one more.
func growing(leaves int) api.Language {
	l := api.Language{Name: "growing", Symbols: statetest.Symbols(api.Int, api.Ints, api.Ints, api.Ints)}
	var lists []api.Value
	for i := range 59 {
		lists = append(lists, value.OfInts([]int64{int64(i + 1), 0}))
	}
	l.Rules = slices.Concat(statetest.ConstantRules(0, statetest.Integers(leaves)), statetest.ConstantRules(1, lists), []api.Rule{statetest.Op(1, "running", 1), statetest.Op(2, "running", 1), statetest.Op(3, "running", 2)})
	return l
}

// A limited is a language with tuples and a bound, and the numbers of states and options of its class graph.
type limited struct {
	l               api.Language
	tuples          [][]api.Value
	most            int
	states, options int
}

// limits returns cases that have exactly as many states or options as the limits permit, one more, and far fewer for a smaller bound or without tuples.
func limits() []limited {
	one := [][]api.Value{nil}
	return []limited{
		{statetest.ManyStates(1), one, 3, api.MaxNodes, 4096},
		{statetest.ManyStates(2), one, 3, api.MaxNodes + 1, 4097},
		{statetest.ManyStates(2), one, 2, 128, 128},
		{statetest.ManyStates(2), nil, 3, 4, 67},
		{manyOptions(1), one, 7, 1060, api.MaxOptions},
		{manyOptions(2), one, 7, 1061, api.MaxOptions + 1},
		{manyOptions(2), one, 6, 1030, 2978},
		{manyOptions(2), one, 4, 65, 95},
		{manyOptions(2), nil, 7, 6, 39},
		{growing(25), one, api.MaxSize, api.MaxNodes, 4096},
		{growing(26), one, api.MaxSize, api.MaxNodes + 1, 4097},
		{growing(26), one, api.MaxSize - 1, 3920, 3920},
		// The opposites of opposites are the numbers, so that there are few classes, but many terms.
		{statetest.Language("language opposites\ninputs\nsymbol S int\nrule S = 1\nrule S = neg(S)\n"), one, api.MaxSize, 2, 3},
	}
}

// P24.1 to P24.4: exactly as many states and options as the limits permit, and one more. Symbols count that the start symbol does not derive.
func TestLimits(t *testing.T) {
	for i, x := range limits() {
		g := graphOf(x.l, x.tuples, x.most)
		if g.states != x.states || g.options != x.options {
			t.Errorf("case %d: %d states, %d options", i, g.states, g.options)
		}
		want := api.OK
		if !g.isWithinLimits() {
			want = api.ErrLimit
		}
		checkAll(t, x, want)
		if b, e := bottomup.Build(x.l, x.tuples, x.most); e == api.OK && !equalBanks(b, bottomup.Bank{Terms: g.first}) {
			t.Errorf("case %d: %v", i, b)
		}
		if t.Failed() {
			t.Fatalf("case %d", i)
		}
	}
}

// checkAll checks that all functions return this error for a language without inputs, and no result with an error.
func checkAll(t *testing.T, x limited, want api.Errno) {
	t.Helper()
	if b, e := bottomup.Build(x.l, x.tuples, x.most); e != want || (len(b.Terms) > 0) != (e == api.OK) {
		t.Errorf("Build is %d, not %d, with %d symbols", e, want, len(b.Terms))
	}
	if r, e := bottomup.Rounds(x.l, x.tuples, x.most); e != want || (len(r) > 0) != (e == api.OK) {
		t.Errorf("Rounds is %v, %d, not %d", r, e, want)
	}
	if len(x.tuples) > 0 {
		if o, e := bottomup.Reach(x.l, x.tuples, x.most); e != want || (len(o) > 0) != (e == api.OK) {
			t.Errorf("Reach is %v, %d, not %d", o, e, want)
		}
	}
	// A program that is found at once makes no difference, and neither does an output that no program has.
	for _, output := range []int64{1, 99} {
		list := make([]api.Example, len(x.tuples))
		for i := range list {
			list[i].Output = value.OfInt(output)
		}
		wantErrno := want
		if output == 99 && len(list) > 0 && want == api.OK {
			wantErrno = api.ErrUnreal
		}
		if y, e := bottomup.Find(x.l, list, x.most); e != wantErrno || !isZero(y) {
			t.Errorf("Find of %d is %s, %d, not %d", output, write(y), e, wantErrno)
		}
	}
}

// P24.1, P24.4: rules with very many choices for some arguments and none for the last one, and then rules with very many options.
func TestVeryManyChoices(t *testing.T) {
	one := [][]api.Value{nil}
	plain, vain, many := statetest.ManyStates(1), statetest.ManyStates(1), statetest.ManyStates(1)
	vain.Symbols = statetest.Symbols(api.Int, api.Text, api.Text, api.Text, api.Text)
	vain.Rules = append(vain.Rules, statetest.Op(3, "replace", 3, 3, 4))
	many.Rules = append(many.Rules, statetest.Op(3, "replace", 3, 3, 3), statetest.Op(2, "replace", 3, 3, 3), statetest.Op(1, "replace", 3, 3, 3))
	want, e := bottomup.Rounds(plain, one, api.MaxSize)
	if e != api.OK || want[2] != 3969 {
		t.Fatal(want, e)
	}
	if r, e := bottomup.Rounds(vain, one, api.MaxSize); e != api.OK || !slices.Equal(r, want) {
		t.Errorf("%v, %d", r, e)
	}
	if r, e := bottomup.Rounds(many, one, 9); e != api.OK || !slices.Equal(r, want[:9]) {
		t.Errorf("%v, %d", r, e)
	}
	if r, e := bottomup.Rounds(many, one, 10); e != api.ErrLimit || len(r) > 0 {
		t.Errorf("%v, %d", r, e)
	}
}

// P24.1: the bounds up to which the included languages are within the limits. A bank tells how many options the next bound has.
func TestLimitsOfIncludedLanguages(t *testing.T) {
	for _, x := range families()[8:] {
		var b bottomup.Bank
		e := api.OK
		most := 0
		for e == api.OK {
			most++
			next, errno := bottomup.Build(x.l, x.tuples, most)
			if most > 1 && (errno == api.OK) != isNextWithinLimits(x, b, most) {
				t.Fatalf("%s: Build up to %d is %d", x.l.Name, most, errno)
			}
			b, e = next, errno
		}
		if e != api.ErrLimit || most < 6 || most > 9 {
			t.Errorf("%s: %d for %d", x.l.Name, e, most)
		}
		if _, e := bottomup.Build(x.l, x.tuples, api.MaxSize); e != api.ErrLimit {
			t.Errorf("%s: %d", x.l.Name, e)
		}
	}
}

// isNextWithinLimits reports whether the class graph up to most is within the limits, if the bank has the representatives of smaller sizes.
func isNextWithinLimits(x family, b bottomup.Bank, most int) bool {
	g := classGraph{first: b.Terms}
	for _, r := range x.l.Rules {
		g.options += g.optionsOf(r.Args, most-1)
	}
	if g.options > api.MaxOptions {
		return false
	}
	for symbol, list := range b.Terms {
		keys := map[string]bool{}
		for _, y := range list {
			keys[statetest.Key(x.l, y, x.tuples)] = true
		}
		for rule, r := range x.l.Rules {
			if r.Symbol == symbol {
				addKeys(x, b, api.Term{Rule: rule}, most-1, keys)
			}
		}
		g.states += len(keys)
	}
	return g.states <= api.MaxNodes
}

// addKeys adds the keys of the terms that begin with the rule and the arguments of t, and have representatives as their other arguments, with as many rules as the room says.
func addKeys(x family, b bottomup.Bank, t api.Term, room int, keys map[string]bool) {
	args := x.l.Rules[t.Rule].Args
	if len(t.Args) == len(args) {
		if room == 0 {
			keys[statetest.Key(x.l, t, x.tuples)] = true
		}
		return
	}
	for _, y := range b.Terms[args[len(t.Args)]] {
		if size := term.Size(y); size <= room {
			addKeys(x, b, api.Term{Rule: t.Rule, Args: append(slices.Clone(t.Args), y)}, room-size, keys)
		}
	}
}
