package propagate_test

import (
	"strconv"
	"strings"
	"testing"

	"synthesis/api"
	"synthesis/counting"
	"synthesis/inverse"
	"synthesis/propagate"
	"synthesis/statetest"
	"synthesis/value"
)

// unknown is the infinite need.
const unknown = 1 << 40

// A definition finds needs by their definition. It knows the needs that it has found before.
type definition struct {
	l      api.Language
	tuples [][]api.Value
	least  []int
	known  map[string]int
}

func definitionOf(l api.Language, tuples [][]api.Value) definition {
	least, e := counting.Least(l)
	if e != api.OK {
		panic(l.Name)
	}
	return definition{l, tuples, least, map[string]int{}}
}

// need returns the need of a depth of a symbol.
func (d definition) need(symbol int, outputs []api.Value, depth int) int {
	if depth == 0 {
		if d.least[symbol] == 0 {
			return unknown
		}
		return d.least[symbol]
	}
	key := strconv.Itoa(symbol) + "," + strconv.Itoa(depth) + ":" + keyOf(outputs)
	if need, isKnown := d.known[key]; isKnown {
		return need
	}
	need := unknown
	for rule, r := range d.l.Rules {
		if r.Symbol == symbol {
			need = min(need, d.byRule(rule, outputs, depth))
		}
	}
	d.known[key] = need
	return need
}

// byRule returns the number that a rule gives.
func (d definition) byRule(rule int, outputs []api.Value, depth int) int {
	r := d.l.Rules[rule]
	if r.Kind != api.RuleOp {
		for k, out := range outputs {
			if r.Kind == api.RuleInput && !value.Equal(d.tuples[k][r.Input], out) || r.Kind == api.RuleConst && !value.Equal(r.Const, out) {
				return unknown
			}
		}
		return 1
	}
	goals, e := goalsOf(r, outputs)
	if !inverse.Invertible(r.Op) || e != api.OK {
		return d.sum(r, nil, 0)
	}
	need := unknown
	for _, goal := range goals {
		need = min(need, d.sum(r, goal, depth-1))
	}
	return need
}

// sum returns 1 plus the needs of a depth of the symbols of a rule.
func (d definition) sum(r api.Rule, goal [][]api.Value, depth int) int {
	sum := 1
	for i, symbol := range r.Args {
		if depth == 0 {
			sum += d.need(symbol, nil, 0)
		} else {
			sum += d.need(symbol, goal[i], depth)
		}
	}
	return min(sum, unknown)
}

// checkNeeds compares Needs with the definition, and returns it.
func checkNeeds(t *testing.T, d definition, symbol int, outputs []api.Value) int {
	t.Helper()
	want := d.need(symbol, outputs, 2)
	if want == unknown {
		want = 0
	}
	got, e := propagate.Needs(d.l, symbol, outputs, d.tuples)
	if e != api.OK || got != want {
		t.Fatalf("%s: Needs of %d, %v, %v is %d, %d, not %d", d.l.Name, symbol, outputs, d.tuples, got, e, want)
	}
	return got
}

// P30.3, P30.4: the outputs of small terms of all symbols.
func TestNeeds(t *testing.T) {
	for _, x := range statetest.Families() {
		o := statetest.OracleOf(x.Language)
		for n := range min(len(x.Tuples), 3) + 1 {
			d := definitionOf(x.Language, x.Tuples[:n])
			for symbol := range x.Language.Symbols {
				isKnown := map[string]bool{}
				for _, y := range o.UpTo(symbol, x.Most-2) {
					outputs, isDefined := outputsOf(x.Language, y, d.tuples)
					if key := keyOf(outputs); isDefined && !isKnown[key] && len(isKnown) < 15 {
						isKnown[key] = true
						// The terms are in order, so that this is the least one.
						if need := checkNeeds(t, d, symbol, outputs); need == 0 || need > sizeOf(y) {
							t.Fatalf("%s: Needs of %v is %d, but %v has %d rules", x.Language.Name, outputs, need, y, sizeOf(y))
						}
					}
				}
			}
		}
	}
}

func sizeOf(t api.Term) int {
	size := 1
	for _, arg := range t.Args {
		size += sizeOf(arg)
	}
	return size
}

// P30.3, P30.4: all sorts of outputs, whether terms have them or not. No smaller bound reaches outputs than Needs says.
func TestNeedsOfValues(t *testing.T) {
	lang, _ := inverting()
	tuples := [][]api.Value{of(n(7), s("AB"), v(37), l(1, 4, 3)), of(n(0), s(""), v(0), l())}
	families := append(statetest.Families(), statetest.Family{Language: lang, Tuples: tuples, Most: 3})
	// The numbers of lists of outputs that are never had, and of those for which the depth 1 gives another need.
	var vain, different int
	for _, x := range families {
		for n := range min(len(x.Tuples), 2) + 1 {
			d := definitionOf(x.Language, x.Tuples[:n])
			for symbol, y := range x.Language.Symbols {
				all := valuesOf(y.Type)
				for i, out := range all {
					outputs := of(out, all[(i*3+1)%len(all)])[:n]
					need := checkNeeds(t, d, symbol, outputs)
					if need == 0 {
						vain++
					} else if d.need(symbol, outputs, 1) != need {
						different++
					}
					for most := 1; most < min(need, 5) || need == 0 && most <= 3; most++ {
						if is, e := propagate.Reachable(x.Language, symbol, outputs, d.tuples, most); e != api.OK || is {
							t.Fatalf("%s: %v is reached up to %d: %t, %d", x.Language.Name, outputs, most, is, e)
						}
					}
				}
			}
		}
	}
	if vain < 20 || different < 20 {
		t.Error(vain, different)
	}
}

// P30.3: the examples of the document, and where one level more or less would give another number.
func TestNeedsExamples(t *testing.T) {
	p, empty := parts(), statetest.Empty()
	p.Rules = p.Rules[:3]
	b := [][]api.Value{of(s("b"))}
	for i, x := range []struct {
		l       api.Language
		symbol  int
		outputs []api.Value
		tuples  [][]api.Value
		want    int
	}{
		{p, 0, of(s("ab")), b, 3},
		{p, 0, of(s("x")), b, 7},
		{p, 0, of(s("")), b, 7},
		{p, 0, of(s("a")), b, 1},
		{p, 0, of(s("b")), b, 1},
		{p, 0, of(s("aab")), b, 5},
		{p, 0, of(s("axb")), b, 5},
		{p, 0, of(s("abab")), b, 5},
		{p, 0, of(s("xaxa")), b, 5},
		{p, 0, of(s("xx")), b, 7},
		{p, 0, of(s("ab"), s("ac")), [][]api.Value{of(s("b")), of(s("c"))}, 3},
		{p, 0, of(s("ab"), s("ac")), [][]api.Value{of(s("b")), of(s("b"))}, 5},
		{p, 0, nil, nil, 1},
		{empty, 0, of(n(1)), statetest.Numbers(1), 0},
		{empty, 0, nil, nil, 0},
		{statetest.Language("language wrong\ninputs\nsymbol S int\nsymbol A int\nrule S = neg(A)\nrule A = 1\n"), 0, of(n(2)), [][]api.Value{nil}, 0},
		{statetest.Language("language right\ninputs\nsymbol S int\nsymbol A int\nrule S = neg(A)\nrule A = 1\n"), 0, of(n(-1)), [][]api.Value{nil}, 2},
		// The operator is undone, and the constant is not found; one level deeper it is not looked for.
		{statetest.Language("language third\ninputs\nsymbol S int\nsymbol A int\nsymbol B int\nrule S = neg(A)\nrule A = neg(B)\nrule B = 1\n"), 0, of(n(2)), [][]api.Value{nil}, 3},
		// add is not invertible.
		{statetest.Language("language flat\ninputs\nsymbol S int\nsymbol A int\nrule S = add(A, A)\nrule A = 1\n"), 0, of(n(7)), [][]api.Value{nil}, 3},
		{statetest.Language("language vain\ninputs\nsymbol S int\nsymbol A int\nsymbol N int\nrule S = add(A, N)\nrule A = 1\nrule N = neg(N)\n"), 0, of(n(7)), [][]api.Value{nil}, 0},
		// There are too many texts for these letters, so that the need is that of any text.
		{statetest.Language("language many\ninputs\nsymbol S text\nsymbol A text\nrule S = upper(A)\nrule A = \"a\"\n"), 0, of(s("ABCDEFGHI")), [][]api.Value{nil}, 2},
		{statetest.Language("language few\ninputs\nsymbol S text\nsymbol A text\nrule S = upper(A)\nrule A = \"a\"\n"), 0, of(s("ABCDEFGH")), [][]api.Value{nil}, 0},
		{statetest.Language("language none\ninputs\nsymbol S text\nsymbol A text\nrule S = upper(A)\nrule S = concat(A, S)\nrule A = \"a\"\n"), 0, of(s("a")), [][]api.Value{nil}, 4},
	} {
		if got, e := propagate.Needs(x.l, x.symbol, x.outputs, x.tuples); e != api.OK || got != x.want {
			t.Errorf("case %d: %d, %d, not %d", i, got, e, x.want)
		}
		checkNeeds(t, definitionOf(x.l, x.tuples), x.symbol, x.outputs)
	}
}

// tall returns a language with as many symbols as possible, each of which needs the next one three times.
func tall() api.Language {
	text := "language tall\ninputs text\n"
	name := func(i int) string { return "S" + strconv.Itoa(i) }
	for i := range api.MaxSymbols {
		text += "symbol " + name(i) + " text\n"
	}
	for i := range api.MaxSymbols - 1 {
		text += "rule " + name(i) + " = replace(" + strings.Repeat(name(i+1)+", ", 2) + name(i+1) + ")\n"
	}
	return statetest.Language(text + "rule " + name(api.MaxSymbols-1) + " = in0\n")
}

// P30.3: least terms that are far greater than any bound, and symbols without terms beside them.
func TestGreatNeeds(t *testing.T) {
	lang := tall()
	want := 1
	for range api.MaxSymbols - 1 {
		want = 3*want + 1
	}
	for range 2 {
		for _, x := range []string{"", "b"} {
			if got, e := propagate.Needs(lang, 0, of(s(x)), [][]api.Value{of(s("b"))}); e != api.OK || got != want {
				t.Errorf("%d, %d, not %d", got, e, want)
			}
		}
		// concat(S0, S0) is greater, and found by goals.
		lang.Rules = append(lang.Rules, api.Rule{Symbol: 0, Kind: api.RuleOp, Op: "concat", Args: []int{0, 0}})
	}
	lang.Rules = lang.Rules[:api.MaxSymbols-1]
	if got, e := propagate.Needs(lang, 0, of(s("b")), [][]api.Value{of(s("b"))}); e != api.OK || got != 0 {
		t.Errorf("%d, %d", got, e)
	}
}

// P30.3: bit vectors have many goals, and lists of outputs very many.
func TestManyGoals(t *testing.T) {
	lang := api.Language{Name: "bits", Inputs: []int{api.Bits}}
	for i := range api.MaxSymbols {
		lang.Symbols = append(lang.Symbols, api.Symbol{Name: "S" + strconv.Itoa(i), Type: api.Bits})
		lang.Rules = append(lang.Rules, api.Rule{Symbol: i, Kind: api.RuleConst, Const: v(int64(i))})
	}
	operators := []string{"bxor", "badd", "bsub", "bmul", "bor", "band"}
	for i := range api.MaxRules - api.MaxSymbols {
		lang.Rules = append(lang.Rules, api.Rule{Symbol: i % 16, Kind: api.RuleOp, Op: operators[i%6], Args: []int{(i * 5) % 16, (i*3 + i/16) % 16}})
	}
	one := [][]api.Value{of(v(3))}
	if need, e := propagate.Needs(lang, 1, of(v(200)), one); e != api.OK || need < 3 {
		t.Errorf("%d, %d", need, e)
	}
	// Eight of the outputs have a letter, so that there are as many goals of upper as the limit permits. Those of concat are too many.
	text := statetest.Language("language texts\ninputs text\nsymbol S text\nrule S = in0\nrule S = upper(S)\nrule S = concat(S, S)\n")
	var outputs []api.Value
	var tuples [][]api.Value
	for i := range 1000 {
		out := strconv.Itoa(i)
		if i >= 992 {
			out = "A" + out
		}
		outputs = append(outputs, s(out))
		tuples = append(tuples, of(s("a")))
	}
	if need, e := propagate.Needs(text, 0, outputs, tuples); e != api.OK || need != 3 {
		t.Errorf("%d, %d", need, e)
	}
}
