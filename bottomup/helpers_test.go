package bottomup_test

import (
	"slices"
	"strconv"
	"strings"

	"synthesis/api"
	"synthesis/eval"
	"synthesis/languages"
	"synthesis/notation"
	"synthesis/term"
	"synthesis/value"
)

// language returns the language with this text.
func language(text string) api.Language {
	l, line, e := notation.ParseLanguage(text)
	if e != api.OK {
		panic("line " + strconv.Itoa(line) + " of " + text)
	}
	return l
}

// included returns an included language.
func included(name string) api.Language {
	l, e := languages.Get(name)
	if e != api.OK {
		panic(name)
	}
	return l
}

// sums returns the language of the examples.
func sums() api.Language {
	return language("language sums\ninputs int\nsymbol S int\nrule S = in0\nrule S = 0\nrule S = add(S, S)\n")
}

// backwards returns a language whose rules for large terms come first, so that a term with a large first argument precedes one of the same size with a small one.
func backwards() api.Language {
	return language("language backwards\ninputs int\nsymbol S int\nrule S = add(S, S)\nrule S = neg(S)\nrule S = 1\nrule S = in0\n")
}

// overflow returns a language with sums that are undefined, and two symbols of one type.
func overflow() api.Language {
	return language("language overflow\ninputs int\nsymbol S int\nsymbol A int\nrule S = in0\nrule S = 1000000\nrule S = add(S, A)\nrule S = neg(S)\nrule A = in0\nrule A = 1000000\nrule A = mul(A, S)\n")
}

// choices returns a language with three symbols, two inputs, and operators with one, two and three arguments. One more symbol has no term.
func choices() api.Language {
	return language("language choices\ninputs text int\nsymbol T text\nsymbol I int\nsymbol B bool\nsymbol N text\nrule I = len(T)\nrule T = iftext(B, T, T)\nrule T = in0\nrule B = less(I, I)\nrule I = in1\nrule I = -1\nrule T = word(T, I)\nrule B = true\nrule N = upper(N)\nrule T = concat(T, N)\n")
}

// mixture returns a language with a symbol of each of the eight types.
func mixture() api.Language {
	return language("language mixture\ninputs table ints texts bits\nsymbol M table\nsymbol L ints\nsymbol X texts\nsymbol T text\nsymbol I int\nsymbol P pattern\nsymbol V bits\nsymbol B bool\n" +
		"rule M = in0\nrule L = in1\nrule X = in2\nrule V = in3\nrule L = []\nrule X = {}\nrule M = <>\nrule I = 0\nrule P = r\"a\"\nrule T = \"a\"\nrule V = 0x00\nrule B = false\n" +
		"rule M = transpose(M)\nrule L = take(L, I)\nrule X = row(M, I)\nrule T = item(X, I)\nrule I = head(L)\nrule I = ones(V)\nrule P = plit(T)\nrule V = bnot(V)\nrule B = matches(T, P)\n")
}

// truths returns a language that has few classes, also for great bounds, and a start symbol that no other symbol derives.
func truths() api.Language {
	return language("language truths\ninputs bool bool\nsymbol R bool\nsymbol B bool\nrule R = not(B)\nrule B = in0\nrule B = or(B, B)\nrule B = not(B)\nrule B = in1\n")
}

// constants returns a language without inputs.
func constants() api.Language {
	return language("language constants\ninputs\nsymbol S text\nrule S = \"ab\"\nrule S = concat(S, S)\nrule S = upper(S)\n")
}

func empty() api.Language { return language("language empty\ninputs int\nsymbol S int\n") }

// A family is a language, tuples that fit it, and a bound up to which there are not too many terms.
type family struct {
	l      api.Language
	tuples [][]api.Value
	most   int
}

func families() []family {
	var mixed [][]api.Value
	for _, table := range [][][]string{nil, {{"x", "y"}}, {{"a"}, {"b"}}} {
		mixed = append(mixed,
			[]api.Value{value.OfTable(table), value.OfInts([]int64{1, 0}), value.OfTexts(nil), value.OfBits(0)},
			[]api.Value{value.OfTable(table), value.OfInts(nil), value.OfTexts([]string{"a"}), value.OfBits(254)})
	}
	texts := [][]api.Value{
		{value.OfText("ada lovelace"), value.OfInt(1)}, {value.OfText(""), value.OfInt(0)}, {value.OfText("a b"), value.OfInt(-3)}, {value.OfText("a b"), value.OfInt(-3)}, {value.OfText("a b c"), value.OfInt(2)},
	}
	var bools [][]api.Value
	for n := range 4 {
		bools = append(bools, []api.Value{value.OfBool(n < 2), value.OfBool(n%2 == 0)})
	}
	words := [][]api.Value{{value.OfText("ada lovelace")}, {value.OfText("")}, {value.OfText("x, y")}}
	return []family{
		{sums(), numbers(1, 0, 1, -3), 9},
		{backwards(), numbers(2, 0, 5), 8},
		{overflow(), numbers(0, 1, -1, 2, 500000, 1000000), 8},
		{choices(), texts, 7},
		{mixture(), mixed, 7},
		{truths(), bools, 8},
		{constants(), [][]api.Value{{}, nil}, 9},
		{empty(), numbers(1, 2), 5},
		{included("strings"), words, 5},
		{included("patterns"), words, 6},
		{included("lists"), [][]api.Value{{value.OfInts([]int64{3, 1, 2})}, {value.OfInts(nil)}}, 4},
		{included("vectors"), [][]api.Value{{value.OfBits(3)}, {value.OfBits(128)}}, 4},
		{included("tables"), [][]api.Value{{value.OfTable([][]string{{"a", "b"}, {"", "c"}})}}, 5},
	}
}

// numbers returns tuples of one integer.
func numbers(list ...int64) [][]api.Value {
	var tuples [][]api.Value
	for _, n := range list {
		tuples = append(tuples, []api.Value{value.OfInt(n)})
	}
	return tuples
}

// invalid returns languages that are not valid.
func invalid() []api.Language {
	noName, noSymbols, twice := sums(), sums(), sums()
	noName.Name = ""
	noSymbols.Symbols = nil
	twice.Rules = append(twice.Rules, twice.Rules[0])
	return []api.Language{{}, noName, noSymbols, twice}
}

// leaf returns the term of a rule without arguments.
func leaf(rule int) api.Term { return api.Term{Rule: rule} }

// write returns a text of a term.
func write(t api.Term) string {
	var b strings.Builder
	b.WriteString(strconv.Itoa(t.Rule))
	for _, arg := range t.Args {
		b.WriteString("(" + write(arg) + ")")
	}
	return b.String()
}

func writeAll(list []api.Term) string {
	var b strings.Builder
	for _, t := range list {
		b.WriteString(write(t) + "\n")
	}
	return b.String()
}

// printed returns the texts of terms of a symbol.
func printed(l api.Language, list []api.Term) []string {
	var texts []string
	for _, t := range list {
		text, e := notation.Print(l, t)
		if e != api.OK {
			panic(write(t))
		}
		texts = append(texts, text)
	}
	return texts
}

func isZero(t api.Term) bool { return t.Rule == 0 && len(t.Args) == 0 }

// An oracle puts together all terms of a language, following the definitions. It knows those that it has put together before.
type oracle struct {
	l     api.Language
	known map[[2]int][]api.Term
}

func oracleOf(l api.Language) oracle { return oracle{l, map[[2]int][]api.Term{}} }

// terms returns the terms of a symbol that have the size, in the order of terms.
func (o oracle) terms(symbol, size int) []api.Term {
	all, isKnown := o.known[[2]int{symbol, size}]
	if isKnown {
		return all
	}
	for rule, r := range o.l.Rules {
		if r.Symbol != symbol {
			continue
		}
		for _, args := range o.lists(r.Args, size-1) {
			all = append(all, api.Term{Rule: rule, Args: args})
		}
	}
	slices.SortFunc(all, func(a, b api.Term) int { return slices.Compare(term.Rules(a), term.Rules(b)) })
	o.known[[2]int{symbol, size}] = all
	return all
}

// upTo returns the terms of a symbol up to a size, in the order of terms.
func (o oracle) upTo(symbol, most int) []api.Term {
	var all []api.Term
	for size := 1; size <= most; size++ {
		all = append(all, o.terms(symbol, size)...)
	}
	return all
}

// lists returns the lists of terms, one of each symbol, whose sizes add up to total.
func (o oracle) lists(symbols []int, total int) [][]api.Term {
	if len(symbols) == 0 && total == 0 {
		return [][]api.Term{nil}
	}
	if len(symbols) == 0 {
		return nil
	}
	var all [][]api.Term
	for size := 1; size <= total; size++ {
		for _, first := range o.terms(symbols[0], size) {
			for _, others := range o.lists(symbols[1:], total-size) {
				all = append(all, append([]api.Term{first}, others...))
			}
		}
	}
	return all
}

// A classGraph has what the definitions say of the classes: the representatives of each symbol in the order of terms,
// the place of the representative of each list of outcomes, and the numbers of states and options.
type classGraph struct {
	first           [][]api.Term
	places          []map[string]int
	states, options int
}

// graphOf returns the class graph by its definition, from all terms.
func graphOf(l api.Language, tuples [][]api.Value, most int) classGraph {
	var g classGraph
	o := oracleOf(l)
	for symbol := range l.Symbols {
		var first []api.Term
		places := map[string]int{}
		for _, t := range o.upTo(symbol, most) {
			key := keyOf(l, t, tuples)
			if _, isKnown := places[key]; !isKnown {
				places[key] = len(first)
				first = append(first, t)
			}
		}
		g.first = append(g.first, first)
		g.places = append(g.places, places)
		g.states += len(first)
	}
	for _, r := range l.Rules {
		g.options += g.optionsOf(r.Args, most-1)
	}
	return g
}

// optionsOf returns the number of lists of classes, one of each symbol, whose representatives have sizes that add up to at most the room.
func (g classGraph) optionsOf(symbols []int, room int) int {
	if len(symbols) == 0 {
		return 1
	}
	n := 0
	for _, t := range g.first[symbols[0]] {
		if size := term.Size(t); size <= room {
			n += g.optionsOf(symbols[1:], room-size)
		}
	}
	return n
}

func (g classGraph) isWithinLimits() bool {
	return g.states <= api.MaxNodes && g.options <= api.MaxOptions
}

// rounds returns the numbers of representatives of each size.
func (g classGraph) rounds(most int) []int {
	list := make([]int, most)
	for _, first := range g.first {
		for _, t := range first {
			list[term.Size(t)-1]++
		}
	}
	return list
}

// reached returns the outcomes of the terms of the start symbol on a tuple, in the order of the first terms that have them.
func reached(l api.Language, tuple []api.Value, most int) []api.Outcome {
	var list []api.Outcome
	for _, t := range oracleOf(l).upTo(0, most) {
		v, e := eval.Run(l, t, tuple)
		isKnown := func(x api.Outcome) bool { return x.Errno == e && value.Equal(x.Value, v) }
		if !slices.ContainsFunc(list, isKnown) {
			list = append(list, api.Outcome{Value: v, Errno: e})
		}
	}
	return list
}

// keyOf returns the key of the outcomes of a term on tuples, which are found one by one.
func keyOf(l api.Language, t api.Term, tuples [][]api.Value) string {
	var list []api.Outcome
	for _, tuple := range tuples {
		v, e := eval.Run(l, t, tuple)
		list = append(list, api.Outcome{Value: v, Errno: e})
	}
	return eval.Key(list)
}

func equalOutcomes(a, b []api.Outcome) bool {
	return slices.EqualFunc(a, b, func(x, y api.Outcome) bool {
		return x.Errno == y.Errno && value.Equal(x.Value, y.Value)
	})
}
