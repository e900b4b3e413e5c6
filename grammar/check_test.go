package grammar_test

import (
	"math"
	"slices"
	"strings"
	"testing"

	"synthesis/api"
	"synthesis/grammar"
	"synthesis/operator"
	"synthesis/value"
)

// P11.1: valid languages, among them those that are as large as the limits permit.
func TestCheckOfValid(t *testing.T) {
	for i, l := range samples() {
		if e := grammar.Check(l); e != api.OK {
			t.Errorf("language %d: %d", i, e)
		}
	}
	large := many(api.MaxRules)
	large.Name = strings.Repeat("x", api.MaxName)
	large.Inputs = []int{api.Bool, api.Pattern, api.Table, api.Bool}
	for i := 1; i < api.MaxSymbols; i++ {
		large.Symbols = append(large.Symbols, api.Symbol{Name: strings.Repeat("y", i), Type: i%8 + 1})
	}
	if e := grammar.Check(large); e != api.OK {
		t.Error(e)
	}
	if e := grammar.Check(api.Language{Name: "z", Symbols: []api.Symbol{{Name: "z", Type: api.Bits}}}); e != api.OK {
		t.Error(e)
	}
}

// P11.1: names.
func TestCheckOfNames(t *testing.T) {
	names := map[string]bool{
		"a": true, "Z": true, "z9": true, "A-": true, "a--0": true, "in0": true, "true": true, "add": true,
		strings.Repeat("a", api.MaxName): true,
		"":                               false, "-": false, "-a": false, "0": false, "9a": false, " a": false, "a ": false,
		"a_": false, "a.b": false, "a\x00": false, "a\n": false, "é": false, "aé": false, "a\xff": false, "\u212a": false,
		strings.Repeat("a", api.MaxName+1): false,
	}
	for c := range 256 {
		b := byte(c)
		isLetter := 'a' <= b && b <= 'z' || 'A' <= b && b <= 'Z'
		names[string([]byte{b})] = isLetter
		names[string([]byte{'q', b})] = isLetter || '0' <= b && b <= '9' || b == '-'
	}
	for name, isName := range names {
		want := api.OK
		if !isName {
			want = api.ErrName
		}
		l := sums()
		l.Name = name
		if e := grammar.Check(l); e != want {
			t.Errorf("language %q: %d, not %d", name, e, want)
		}
		l = sums()
		l.Symbols[0].Name = name
		if e := grammar.Check(l); e != want {
			t.Errorf("symbol %q: %d, not %d", name, e, want)
		}
	}
}

// noTypes are numbers of no type.
func noTypes() []int { return []int{math.MinInt, -1, 0, 9, 256 + 1, math.MaxInt} }

// fault is a change of a valid language that makes it invalid.
type fault struct {
	name   string
	e      api.Errno
	change func(*api.Language)
}

// faults returns changes in the order in which their errors are named. Several of them may be applied to one language, from the last one to the first.
func faults() []fault {
	return []fault{
		{"name", api.ErrName, func(l *api.Language) { l.Name = "" }},
		{"many inputs", api.ErrSize, func(l *api.Language) { l.Inputs = append(l.Inputs, make([]int, api.MaxInputs)...) }},
		{"type of an input", api.ErrType, func(l *api.Language) { l.Inputs = append(l.Inputs, 0) }},
		{"many symbols", api.ErrSize, func(l *api.Language) { l.Symbols = append(l.Symbols, make([]api.Symbol, api.MaxSymbols)...) }},
		{"name of a symbol", api.ErrName, func(l *api.Language) { l.Symbols[1].Name = "-" }},
		{"symbol twice", api.ErrTwice, func(l *api.Language) { l.Symbols[1].Name = l.Symbols[0].Name }},
		{"type of a symbol", api.ErrType, func(l *api.Language) { l.Symbols[1].Type = 9 }},
		{"name of the last symbol", api.ErrName, func(l *api.Language) { l.Symbols[2].Name = "" }},
		{"many rules", api.ErrSize, func(l *api.Language) { l.Rules = append(l.Rules, make([]api.Rule, api.MaxRules)...) }},
		{"rule", api.ErrForm, func(l *api.Language) { l.Rules[0].Kind = 0 }},
		{"rule twice", api.ErrTwice, func(l *api.Language) { l.Rules[1] = l.Rules[0] }},
		{"last rule", api.ErrRange, func(l *api.Language) { l.Rules[2].Symbol = -1 }},
	}
}

// P11.1: each error, and the order of the errors.
func TestCheckOrder(t *testing.T) {
	valid := func() api.Language {
		return numbers("SAB", input(0, 0), apply(0, "add", 1, 2), apply(1, "neg", 2))
	}
	all := faults()
	for i, first := range all {
		l := valid()
		first.change(&l)
		if e := grammar.Check(l); e != first.e {
			t.Errorf("%s: %d, not %d", first.name, e, first.e)
		}
		for _, second := range all[i+1:] {
			l := valid()
			second.change(&l)
			first.change(&l)
			if first.name == "name of a symbol" && second.name == "symbol twice" || first.name == "rule" && second.name == "rule twice" {
				continue // the second fault is gone
			}
			if e := grammar.Check(l); e != first.e {
				t.Errorf("%s and %s: %d, not %d", first.name, second.name, e, first.e)
			}
		}
	}
}

// P11.1: inputs and symbols.
func TestCheckOfParts(t *testing.T) {
	for _, x := range noTypes() {
		l := sums()
		l.Inputs = []int{api.Int, x}
		if e := grammar.Check(l); e != api.ErrType {
			t.Errorf("input %d: %d", x, e)
		}
		l = sums()
		l.Symbols = append(l.Symbols, api.Symbol{Name: "A", Type: x})
		if e := grammar.Check(l); e != api.ErrType {
			t.Errorf("symbol %d: %d", x, e)
		}
	}
	l := sums()
	l.Inputs = []int{api.Int, api.Int, api.Int, api.Int, api.Int}
	if e := grammar.Check(l); e != api.ErrSize {
		t.Error(e)
	}
	if e := grammar.Check(numbers("")); e != api.ErrSize {
		t.Error(e)
	}
	if e := grammar.Check(numbers("ABCDEFGHIJKLMNOPQ")); e != api.ErrSize {
		t.Error(e)
	}
	if e := grammar.Check(numbers("ABCDEFGHIJKLMNOP")); e != api.OK {
		t.Error(e)
	}
	if e := grammar.Check(many(api.MaxRules + 1)); e != api.ErrSize {
		t.Error(e)
	}
	twice := numbers("SAS")
	twice.Symbols[2].Type = 0
	if e := grammar.Check(twice); e != api.ErrTwice {
		t.Error(e)
	}
	if e := grammar.Check(api.Language{}); e != api.ErrName {
		t.Error(e)
	}
}

// P11.1, items 1 to 5: each rule is added to a language with symbols 0 to 7 of the types 1 to 8, and the inputs int, text, text and table.
func TestCheckOfRules(t *testing.T) {
	long := value.OfText(strings.Repeat("a", api.MaxText+1))
	some := value.OfInt(5)
	for _, x := range []struct {
		rule api.Rule
		e    api.Errno
	}{
		{input(8, 0), api.ErrRange},
		{input(-1, 0), api.ErrRange},
		{input(math.MinInt, 9), api.ErrRange},
		{api.Rule{Symbol: 8}, api.ErrRange},
		{api.Rule{Symbol: 7, Kind: 0}, api.ErrForm},
		{api.Rule{Symbol: 7, Kind: 4}, api.ErrForm},
		{api.Rule{Symbol: 7, Kind: -1}, api.ErrForm},
		{api.Rule{Symbol: 7, Kind: math.MaxInt}, api.ErrForm},
		{api.Rule{Symbol: 1, Kind: 4, Input: 9, Const: some, Op: "add", Args: []int{1, 1}}, api.ErrForm},

		{api.Rule{Symbol: 1, Kind: api.RuleInput, Input: 9, Const: some}, api.ErrForm},
		{api.Rule{Symbol: 1, Kind: api.RuleInput, Input: 9, Const: api.Value{Type: -1}}, api.ErrForm},
		{api.Rule{Symbol: 1, Kind: api.RuleInput, Input: 9, Const: api.Value{Num: 1}}, api.ErrForm},
		{api.Rule{Symbol: 1, Kind: api.RuleInput, Input: 9, Const: api.Value{Text: "a"}}, api.ErrForm},
		{api.Rule{Symbol: 1, Kind: api.RuleInput, Input: 9, Const: api.Value{Items: make([]api.Value, 1)}}, api.ErrForm},
		{api.Rule{Symbol: 1, Kind: api.RuleInput, Input: 9, Op: "add"}, api.ErrForm},
		{api.Rule{Symbol: 1, Kind: api.RuleInput, Input: 9, Op: " "}, api.ErrForm},
		{api.Rule{Symbol: 1, Kind: api.RuleInput, Input: 9, Args: []int{0}}, api.ErrForm},
		{api.Rule{Symbol: 1, Kind: api.RuleConst, Const: long, Input: 1}, api.ErrForm},
		{api.Rule{Symbol: 1, Kind: api.RuleConst, Const: long, Input: -1}, api.ErrForm},
		{api.Rule{Symbol: 1, Kind: api.RuleConst, Const: long, Op: "neg"}, api.ErrForm},
		{api.Rule{Symbol: 1, Kind: api.RuleConst, Const: long, Args: []int{0}}, api.ErrForm},
		{api.Rule{Symbol: 1, Kind: api.RuleOp, Op: "plus", Input: 1}, api.ErrForm},
		{api.Rule{Symbol: 1, Kind: api.RuleOp, Op: "plus", Const: some}, api.ErrForm},
		{api.Rule{Symbol: 1, Kind: api.RuleOp, Op: "plus", Const: api.Value{Num: 1}}, api.ErrForm},

		{input(1, 4), api.ErrRange},
		{input(1, -1), api.ErrRange},
		{input(1, math.MaxInt), api.ErrRange},
		{input(0, 0), api.ErrType},
		{input(1, 1), api.ErrType},
		{input(2, 3), api.ErrType},

		{constant(2, api.Value{}), api.ErrType},
		{constant(2, api.Value{Type: 9}), api.ErrType},
		{constant(2, api.Value{Type: api.Text, Num: 1}), api.ErrForm},
		{constant(1, value.OfInt(api.MaxInt+1)), api.ErrRange},
		{constant(3, value.OfInt(api.MaxInt+1)), api.ErrRange},
		{constant(2, long), api.ErrSize},
		{constant(1, long), api.ErrSize},
		{constant(2, value.OfText("\n")), api.ErrRange},
		{constant(6, value.OfTable([][]string{{}})), api.ErrSize},
		{constant(2, some), api.ErrType},
		{constant(7, value.OfText("a")), api.ErrType},
		{constant(4, value.OfTexts(nil)), api.ErrType},

		{apply(1, "", 9), api.ErrName},
		{apply(1, "plus", 9), api.ErrName},
		{apply(1, "Add", 1, 1), api.ErrName},
		{apply(1, "add"), api.ErrSize},
		{apply(1, "add", 9), api.ErrSize},
		{apply(1, "add", 1, 1, 9), api.ErrSize},
		{apply(1, "neg", 1, 1), api.ErrSize},
		{apply(0, "add", 8, 0), api.ErrRange},
		{apply(0, "add", -1, 0), api.ErrRange},
		{apply(0, "add", 1, math.MinInt), api.ErrRange},
		{apply(0, "add", 0, 8), api.ErrType},
		{apply(0, "add", 1, 0), api.ErrType},
		{apply(0, "add", 8, 8), api.ErrRange},
		{apply(2, "slice", 2, 1, 8), api.ErrRange},
		{apply(2, "slice", 2, 1, 2), api.ErrType},
		{apply(0, "add", 1, 1), api.ErrType},
		{apply(3, "ones", 3), api.ErrType},

		{input(1, 0), api.ErrTwice},
		{api.Rule{Symbol: 1, Kind: api.RuleInput, Args: []int{}, Const: api.Value{Items: []api.Value{}}}, api.ErrTwice},
		{input(2, 2), api.ErrTwice},
		{constant(1, value.OfInt(-12)), api.ErrTwice},
		{constant(4, api.Value{Type: api.Ints, Items: []api.Value{}}), api.ErrTwice},
		{constant(6, value.OfTable([][]string{{"a", "b"}, {"c", "d"}})), api.ErrTwice},
		{apply(0, "less", 1, 1), api.ErrTwice},
		{apply(2, "extract", 2, 7, 1), api.ErrTwice},

		{constant(1, value.OfInt(12)), api.OK},
		{constant(6, value.OfTable([][]string{{"a", "b"}, {"c", "e"}})), api.OK},
		{apply(0, "eqint", 1, 1), api.OK},
		{apply(2, "concat", 2, 2), api.OK},
	} {
		l := everything()
		l.Rules = append(l.Rules, x.rule)
		if e := grammar.Check(l); e != x.e {
			t.Errorf("rule %+v: %d, not %d", x.rule, e, x.e)
		}
	}
}

// P11.1, items 5 and 6: every operator for all types, and rules that differ in one field.
func TestCheckOfOperators(t *testing.T) {
	for _, name := range operator.Names() {
		o, _ := operator.Find(name)
		l := everything()
		l.Rules = nil
		r := api.Rule{Symbol: o.Result - 1, Kind: api.RuleOp, Op: name}
		for _, t := range o.Args {
			r.Args = append(r.Args, t-1)
		}
		l.Rules = append(l.Rules, r)
		if e := grammar.Check(l); e != api.OK {
			t.Errorf("%s: %d", name, e)
		}
		for i := range l.Symbols {
			l.Rules = []api.Rule{r}
			l.Rules[0].Symbol = i
			if isRight := i == o.Result-1; isValid(l) != isRight {
				t.Errorf("%s: a symbol of the type %d is valid: %v", name, i+1, !isRight)
			}
			for k := range r.Args {
				l.Rules = []api.Rule{r}
				l.Rules[0].Args = slices.Clone(r.Args)
				l.Rules[0].Args[k] = i
				if isRight := i == o.Args[k]-1; isValid(l) != isRight {
					t.Errorf("%s: argument %d of the type %d is valid: %v", name, k, i+1, !isRight)
				}
			}
		}
	}
	l := numbers("SA", input(0, 0), input(1, 0), input(0, 1), apply(0, "add", 0, 1), apply(0, "add", 1, 0), apply(1, "add", 0, 1), apply(0, "sub", 0, 1))
	l.Inputs = []int{api.Int, api.Int}
	if e := grammar.Check(l); e != api.OK {
		t.Error(e)
	}
}

// DOC.md, rule 1: values whose elements contain the values themselves.
func TestCheckOfCycles(t *testing.T) {
	items := make([]api.Value, 1)
	for _, typ := range []int{0, api.Int, api.Ints, api.Texts, api.Table} {
		items[0] = api.Value{Type: typ, Items: items}
		l := everything()
		l.Rules = append(l.Rules, constant(typ, items[0]))
		if isValid(l) {
			t.Errorf("a cycle of the type %d is valid", typ)
		}
		l = sums()
		l.Rules[0].Const = items[0]
		if e := grammar.Check(l); e != api.ErrForm {
			t.Errorf("a cycle of the type %d: %d", typ, e)
		}
	}
}
