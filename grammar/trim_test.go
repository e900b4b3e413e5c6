package grammar_test

import (
	"slices"
	"testing"

	"synthesis/api"
	"synthesis/grammar"
	"synthesis/value"
)

// named is a rule with names in place of the numbers of symbols.
func named(l api.Language, r api.Rule) (string, []string) {
	var args []string
	for _, arg := range r.Args {
		args = append(args, l.Symbols[arg].Name)
	}
	return l.Symbols[r.Symbol].Name, args
}

// sameNamed reports whether two rules are equal if symbols are compared by their names.
func sameNamed(l api.Language, r api.Rule, m api.Language, q api.Rule) bool {
	symbol, args := named(l, r)
	symbol2, args2 := named(m, q)
	return symbol == symbol2 && slices.Equal(args, args2) && r.Kind == q.Kind && r.Input == q.Input && r.Op == q.Op && value.Equal(r.Const, q.Const)
}

// P11.4: what remains is what occurs in terms of the symbol 0.
func TestTrim(t *testing.T) {
	for i, l := range family() {
		terms := contents(l)[0]
		got, from, e := grammar.Trim(l)
		if len(terms) == 0 {
			if e != api.ErrEmpty || !grammar.Same(got, api.Language{}) || len(from) > 0 {
				t.Errorf("language %d: %v, %v, %d", i, got, from, e)
			}
			continue
		}
		all := content{symbols: 1}
		for _, c := range terms {
			all = content{all.symbols | c.symbols, all.rules | c.rules}
		}
		var symbols []api.Symbol
		for k, s := range l.Symbols {
			if all.symbols>>k&1 == 1 {
				symbols = append(symbols, s)
			}
		}
		var rules []int
		for k := range l.Rules {
			if all.rules>>k&1 == 1 {
				rules = append(rules, k)
			}
		}
		if e != api.OK || got.Name != l.Name || !slices.Equal(got.Inputs, l.Inputs) || !slices.Equal(got.Symbols, symbols) || !slices.Equal(from, rules) || len(got.Rules) != len(from) {
			t.Fatalf("language %d: %v, %v, %d", i, got, from, e)
		}
		for k, r := range got.Rules {
			if !sameNamed(got, r, l, l.Rules[from[k]]) {
				t.Errorf("language %d: rule %d is %v", i, k, r)
			}
		}
	}
}

// P11.4: constants and inputs that no rule uses stay, and rules with several arguments are renumbered.
func TestTrimOfTypes(t *testing.T) {
	l := everything()
	// The start symbol derives texts, and so needs no bits, lists or tables.
	l.Symbols[0], l.Symbols[2] = l.Symbols[2], l.Symbols[0]
	for i, r := range l.Rules {
		swap := func(symbol int) int { return []int{2, 1, 0, 3, 4, 5, 6, 7}[symbol] }
		l.Rules[i].Symbol = swap(r.Symbol)
		for k, arg := range r.Args {
			l.Rules[i].Args[k] = swap(arg)
		}
	}
	got, from, e := grammar.Trim(l)
	want := api.Language{
		Name:    "Every-1",
		Inputs:  []int{api.Int, api.Text, api.Text, api.Table},
		Symbols: []api.Symbol{{Name: "a-text", Type: api.Text}, {Name: "a-int", Type: api.Int}, {Name: "a-pattern", Type: api.Pattern}},
		Rules: []api.Rule{
			input(1, 0),
			constant(1, value.OfInt(-12)),
			input(0, 1),
			input(0, 2),
			constant(0, value.OfText("a\"b")),
			constant(2, value.OfPattern("[a-z]*")),
			apply(0, "slice", 0, 1, 1),
			apply(0, "extract", 0, 2, 1),
		},
	}
	if e != api.OK || !grammar.Same(got, want) || !slices.Equal(from, []int{1, 2, 3, 4, 5, 12, 14, 15}) {
		t.Errorf("%v, %v, %d", got, from, e)
	}
}

// P11.4: the errors.
func TestTrimErrors(t *testing.T) {
	for _, x := range []struct {
		l api.Language
		e api.Errno
	}{
		{api.Language{}, api.ErrName},
		{numbers(""), api.ErrSize},
		{numbers("SS"), api.ErrTwice},
		{numbers("S", apply(0, "neg", 1)), api.ErrRange},
		{many(97), api.ErrSize},
		{many(0), api.ErrEmpty},
		{numbers("SA", input(1, 0)), api.ErrEmpty},
		{numbers("S", apply(0, "neg", 0)), api.ErrEmpty},
		{chain(), api.ErrEmpty},
	} {
		got, from, e := grammar.Trim(x.l)
		if e != x.e || !grammar.Same(got, api.Language{}) || len(from) > 0 {
			t.Errorf("%v: %v, %v, %d, not %d", x.l, got, from, e, x.e)
		}
	}
}

// P11.7: the consequences for Trim.
func TestTrimConsequences(t *testing.T) {
	for i, l := range samples() {
		x, from, e := grammar.Trim(l)
		if e != api.OK {
			continue
		}
		if !isValid(x) {
			t.Errorf("language %d: the result is not valid", i)
		}
		if slices.Contains(grammar.Productive(x), false) || slices.Contains(grammar.Reachable(x), false) {
			t.Errorf("language %d: %v", i, x)
		}
		if !slices.IsSorted(from) || len(slices.Compact(from)) != len(x.Rules) {
			t.Errorf("language %d: %v", i, from)
		}
		again, all, e := grammar.Trim(x)
		if e != api.OK || !grammar.Same(again, x) || len(all) != len(x.Rules) {
			t.Errorf("language %d: %v, %v, %d", i, again, all, e)
		}
		for k, rule := range all {
			if rule != k {
				t.Errorf("language %d: rule %d was %d", i, k, rule)
			}
		}
	}
}

// DOC.md, rule 5: the argument stays as it is, and the result shares no memory with it.
func TestTrimMemory(t *testing.T) {
	tables := api.Language{Name: "t", Inputs: []int{api.Table}, Symbols: []api.Symbol{{Name: "T", Type: api.Table}}}
	tables.Rules = []api.Rule{constant(0, value.OfTable([][]string{{"a"}, {"b"}})), input(0, 0), apply(0, "stack", 0, 0), apply(0, "beside", 0, 0)}
	for _, l := range append(samples(), tables) {
		before := deepCopy(l)
		first, _, _ := grammar.Trim(l)
		second, _, _ := grammar.Trim(l)
		want := deepCopy(first)
		if !grammar.Same(l, before) {
			t.Fatalf("%v is changed", before)
		}
		spoil(second)
		if !grammar.Same(l, before) || !grammar.Same(first, want) {
			t.Fatalf("%v: the result shares memory", before)
		}
		for i := range first.Rules {
			rule := first.Rules[i]
			clear(rule.Args[:cap(rule.Args)])
			spoilItems(rule.Const.Items)
			for k := i + 1; k < len(first.Rules); k++ {
				if !grammar.Same(api.Language{Rules: first.Rules[k : k+1]}, api.Language{Rules: want.Rules[k : k+1]}) {
					t.Fatalf("%v: rules of the result share memory", before)
				}
			}
		}
	}
}
