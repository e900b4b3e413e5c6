package observe_test

import (
	"slices"
	"testing"

	"synthesis/api"
	"synthesis/eval"
	"synthesis/languages"
	"synthesis/observe"
	"synthesis/value"
)

// A triple is a state of the state graph.
type triple struct {
	symbol, size int
	key          string
}

// A stateGraph has the states of a state graph, the number of its options, and the keys of each symbol.
type stateGraph struct {
	states  map[triple]bool
	options int
	keys    []map[string]bool
}

// graphOf returns the state graph by its definition, from all terms.
func graphOf(l api.Language, most int, tuples [][]api.Value) stateGraph {
	g := stateGraph{states: map[triple]bool{}}
	o := oracleOf(l)
	for symbol := range l.Symbols {
		g.keys = append(g.keys, map[string]bool{})
		for size := 1; size <= most; size++ {
			for _, x := range o.terms(symbol, size) {
				key := eval.Key(outcomes(l, x, tuples))
				g.states[triple{symbol, size, key}] = true
				g.keys[symbol][key] = true
			}
		}
	}
	statesOf := make([][api.MaxSize + 1]int, len(l.Symbols))
	for s := range g.states {
		statesOf[s.symbol][s.size]++
	}
	for _, r := range l.Rules {
		g.options += optionsOf(r.Args, most-1, statesOf)
	}
	return g
}

// optionsOf returns the number of lists of states, one of each symbol, whose sizes add up to at most the room.
func optionsOf(symbols []int, room int, statesOf [][api.MaxSize + 1]int) int {
	if len(symbols) == 0 {
		return 1
	}
	n := 0
	for size := 1; size <= room; size++ {
		if count := statesOf[symbols[0]][size]; count > 0 {
			n += count * optionsOf(symbols[1:], room-size, statesOf)
		}
	}
	return n
}

func (g stateGraph) isWithinLimits() bool {
	return len(g.states) <= api.MaxNodes && g.options <= api.MaxOptions
}

// checkCount compares Count for all symbols with the state graph.
func checkCount(t *testing.T, l api.Language, most int, tuples [][]api.Value) stateGraph {
	t.Helper()
	g := graphOf(l, most, tuples)
	for symbol := range l.Symbols {
		want, wantErrno := len(g.keys[symbol]), api.OK
		if !g.isWithinLimits() {
			want, wantErrno = 0, api.ErrLimit
		}
		if n, e := observe.Count(l, symbol, most, tuples); n != want || e != wantErrno {
			t.Fatalf("%s: Count of %d, %d is %d, %d, not %d, %d (%d states, %d options)", l.Name, symbol, most, n, e, want, wantErrno, len(g.states), g.options)
		}
	}
	return g
}

// included returns the included languages with a few tuples for each, and a bound up to which there are not too many terms.
func included() []bounded {
	texts := [][]api.Value{{value.OfText("ada lovelace")}, {value.OfText("")}}
	tuples := map[string][][]api.Value{
		"strings":  texts,
		"patterns": texts,
		"lists":    {{value.OfInts([]int64{3, 1, 2})}, {value.OfInts(nil)}},
		"vectors":  {{value.OfBits(3)}, {value.OfBits(128)}},
		"tables":   {{value.OfTable([][]string{{"a", "b"}, {"", "c"}})}},
	}
	most := map[string]int{"strings": 4, "patterns": 6, "lists": 4, "vectors": 4, "tables": 5}
	var all []bounded
	for _, name := range languages.Names() {
		l, _ := languages.Get(name)
		all = append(all, bounded{l, tuples[name], most[name]})
	}
	return all
}

// A bounded language has tuples and a bound.
type bounded struct {
	l      api.Language
	tuples [][]api.Value
	most   int
}

// P22.4: all small terms of all symbols.
func TestCount(t *testing.T) {
	all := included()
	for _, x := range families() {
		all = append(all, bounded{x.l, x.tuples, 6}, bounded{x.l, x.tuples[:1], 6}, bounded{x.l, nil, 5})
	}
	for _, x := range all {
		for most := 1; most <= x.most; most++ {
			if g := checkCount(t, x.l, most, x.tuples); !g.isWithinLimits() {
				t.Errorf("%s: %d states, %d options", x.l.Name, len(g.states), g.options)
			}
		}
	}
}

// P22.4: the examples, undefined outcomes, and symbols that have no term, or none that is small enough.
func TestCountExamples(t *testing.T) {
	l, o, c := sums(), overflow(), choices()
	for i, x := range []struct {
		l            api.Language
		symbol, most int
		tuples       [][]api.Value
		want         int
	}{
		{l, 0, 3, numbers(1), 3},
		{l, 0, 3, numbers(0), 1},
		{l, 0, 3, nil, 1},
		{l, 0, 1, nil, 1},
		{l, 0, 1, numbers(1), 2},
		{l, 0, 2, numbers(1), 2},
		{l, 0, 5, numbers(1), 4},
		// The sum of six inputs is undefined.
		{l, 0, 9, numbers(200000), 6},
		{l, 0, 11, numbers(200000), 7},
		{l, 0, api.MaxSize, numbers(200000), 7},
		// The input, 1000000 and their opposites; then the sum of two inputs, and an undefined sum.
		{o, 0, 2, numbers(1), 4},
		{o, 0, 3, numbers(1), 6},
		{c, 3, 9, nil, 0},
		{c, 2, 2, nil, 1},
	} {
		if n, e := observe.Count(x.l, x.symbol, x.most, x.tuples); e != api.OK || n != x.want {
			t.Errorf("case %d: %d, %d, not %d", i, n, e, x.want)
		}
	}
}

// P22.5: the number does not decrease if the bound grows, or a tuple is added.
func TestCountGrows(t *testing.T) {
	for _, x := range families() {
		for symbol := range x.l.Symbols {
			var before [api.MaxSize + 1]int
			for n := range len(x.tuples) + 1 {
				smaller := 0
				for most := 1; most <= 7; most++ {
					count, e := observe.Count(x.l, symbol, most, x.tuples[:n])
					if e == api.OK && (count < smaller || count < before[most]) {
						t.Fatalf("%s: Count of %d, %d is %d for %d tuples, after %d and %d", x.l.Name, symbol, most, count, n, smaller, before[most])
					}
					smaller = count
					before[most] = count
				}
			}
		}
	}
}

// constantRules returns rules for a symbol that derives constants.
func constantRules(symbol int, constants []api.Value) []api.Rule {
	var rules []api.Rule
	for _, c := range constants {
		rules = append(rules, api.Rule{Symbol: symbol, Kind: api.RuleConst, Const: c})
	}
	return rules
}

// letters returns texts of one byte each.
func letters(count int) []api.Value {
	var list []api.Value
	for i := range count {
		list = append(list, value.OfText(string([]byte{byte(33 + i)})))
	}
	return list
}

// integers returns the numbers from 1 on.
func integers(count int) []api.Value {
	var list []api.Value
	for i := range count {
		list = append(list, value.OfInt(int64(i+1)))
	}
	return list
}

// op returns the rule of an operator.
func op(symbol int, name string, args ...int) api.Rule {
	return api.Rule{Symbol: symbol, Kind: api.RuleOp, Op: name, Args: args}
}

// manyStates returns a language without recursion, in which the terms up to the size 3 have 4095 states, and each of the leaves has one more.
// The start symbol has one term, and derives nothing of that.
func manyStates(leaves int) api.Language {
	l := api.Language{Name: "many-states", Symbols: []api.Symbol{{Name: "S", Type: api.Int}, {Name: "T", Type: api.Text}, {Name: "U", Type: api.Text}, {Name: "V", Type: api.Text}}}
	l.Rules = slices.Concat(constantRules(0, integers(leaves)), constantRules(1, letters(63)), []api.Rule{op(2, "trim", 1), op(3, "concat", 1, 1)})
	return l
}

// manyOptions returns a language without recursion, in which the terms up to the size 4 have 32767 options and fewer states, and each of the leaves has one option more.
func manyOptions(leaves int) api.Language {
	l := api.Language{Name: "many-options", Symbols: []api.Symbol{{Name: "S", Type: api.Int}, {Name: "T", Type: api.Text}, {Name: "U", Type: api.Text}, {Name: "I", Type: api.Int}, {Name: "B", Type: api.Bool}}}
	operators := []api.Rule{op(2, "replace", 1, 1, 1), op(2, "concat", 1, 1), op(3, "find", 1, 1), op(4, "eqtext", 1, 1), op(2, "upper", 1), op(3, "len", 1)}
	l.Rules = slices.Concat(constantRules(0, integers(leaves)), constantRules(1, letters(31)), operators)
	return l
}

// opposites returns a language that has 87 outcomes of each size, twice, and 7 more. If states of different sizes were the same, there would be few.
func opposites(constants, leaves int) api.Language {
	l := api.Language{Name: "opposites", Symbols: []api.Symbol{{Name: "S", Type: api.Int}, {Name: "A", Type: api.Int}, {Name: "B", Type: api.Int}}}
	l.Rules = slices.Concat(constantRules(0, integers(leaves)), constantRules(1, integers(constants)), []api.Rule{op(1, "neg", 1), op(2, "neg", 1)})
	return l
}

// P22.4: exactly as many states and options as the limits permit, and one more. Symbols count that the start symbol does not derive.
func TestCountLimits(t *testing.T) {
	one := [][]api.Value{nil}
	for i, x := range []struct {
		l               api.Language
		most            int
		tuples          [][]api.Value
		states, options int
	}{
		{manyStates(1), 3, one, api.MaxNodes, 4096},
		{manyStates(2), 3, one, api.MaxNodes + 1, 4097},
		{manyStates(2), 2, one, 128, 128},
		// Without tuples, there is one state for each symbol and size.
		{manyStates(30), 3, nil, 4, 95},
		{manyOptions(1), 4, one, 1060, api.MaxOptions},
		{manyOptions(2), 4, one, 1061, api.MaxOptions + 1},
		{opposites(87, 7), api.MaxSize, one, api.MaxNodes, 4096},
		{opposites(93, 1), 22, one, 4000, 4000},
		{opposites(93, 1), 23, one, 4186, 4186},
	} {
		g := checkCount(t, x.l, x.most, x.tuples)
		if t.Failed() || len(g.states) != x.states || g.options != x.options {
			t.Errorf("case %d: %d states, %d options", i, len(g.states), g.options)
		}
	}
}

// P22.4: a greater bound changes nothing for a language without recursion, and a lesser one may leave fewer states and options.
func TestCountBounds(t *testing.T) {
	one := [][]api.Value{nil}
	for i, x := range []struct {
		l    api.Language
		most int
		want api.Errno
	}{
		{manyStates(1), api.MaxSize, api.OK},
		{manyStates(2), api.MaxSize, api.ErrLimit},
		{manyStates(2), 2, api.OK},
		{manyOptions(1), api.MaxSize, api.OK},
		{manyOptions(2), api.MaxSize, api.ErrLimit},
		{manyOptions(2), 3, api.OK},
	} {
		for symbol := range x.l.Symbols {
			if n, e := observe.Count(x.l, symbol, x.most, one); e != x.want || e != api.OK && n != 0 {
				t.Errorf("case %d: %d, %d", i, n, e)
			}
		}
	}
}

// P22.4: languages with far more states and options than the limits permit.
func TestCountFarBeyondLimits(t *testing.T) {
	for _, x := range included() {
		for symbol := range x.l.Symbols {
			if n, e := observe.Count(x.l, symbol, api.MaxSize, x.tuples); n != 0 || e != api.ErrLimit {
				t.Errorf("%s: %d, %d", x.l.Name, n, e)
			}
		}
	}
}
