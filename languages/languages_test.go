package languages_test

import (
	"slices"
	"strings"
	"testing"

	"synthesis/api"
	"synthesis/grammar"
	"synthesis/languages"
	"synthesis/notation"
)

// printed returns the text of a language without its spaces at the ends, or its error.
func printed(t *testing.T, l api.Language) string {
	t.Helper()
	text, e := notation.PrintLanguage(l)
	if e != api.OK {
		t.Errorf("the language %s has the error %d", l.Name, e)
	}
	return strings.TrimSpace(text)
}

// isEmpty reports whether l is the zero value.
func isEmpty(l api.Language) bool { return grammar.Same(l, api.Language{}) }

const stringsText = `
language strings
inputs text
symbol text text
symbol number int
rule text = in0
rule text = " "
rule text = "-"
rule text = "."
rule text = concat(text, text)
rule text = upper(text)
rule text = lower(text)
rule text = trim(text)
rule text = word(text, number)
rule text = char(text, number)
rule text = repeat(text, number)
rule text = slice(text, number, number)
rule text = replace(text, text, text)
rule number = 0
rule number = 1
rule number = -1
rule number = len(text)
rule number = find(text, text)
`

const patternsText = `
language patterns
inputs text
symbol test bool
symbol text text
symbol pattern pattern
rule test = matches(text, pattern)
rule text = in0
rule pattern = r"a"
rule pattern = r"b"
rule pattern = pcat(pattern, pattern)
rule pattern = palt(pattern, pattern)
rule pattern = pstar(pattern)
`

const listsText = `
language lists
inputs ints
symbol list ints
symbol number int
rule list = in0
rule list = take(list, number)
rule list = drop(list, number)
rule list = shift(list, number)
rule list = scale(list, number)
rule list = above(list, number)
rule list = reverse(list)
rule list = sort(list)
rule list = unique(list)
rule list = even(list)
rule list = running(list)
rule list = zip(list, list)
rule list = append(list, list)
rule number = 0
rule number = 1
rule number = 2
rule number = head(list)
rule number = last(list)
rule number = sum(list)
rule number = maximum(list)
rule number = minimum(list)
rule number = length(list)
rule number = element(list, number)
rule number = count(list, number)
`

const vectorsText = `
language vectors
inputs bits
symbol bits bits
symbol number int
rule bits = in0
rule bits = 0x01
rule bits = 0x0f
rule bits = 0x80
rule bits = band(bits, bits)
rule bits = bor(bits, bits)
rule bits = bxor(bits, bits)
rule bits = badd(bits, bits)
rule bits = bsub(bits, bits)
rule bits = bmul(bits, bits)
rule bits = bnot(bits)
rule bits = bleft(bits, number)
rule bits = bright(bits, number)
rule bits = barith(bits, number)
rule number = 1
rule number = 2
rule number = 4
rule number = ones(bits)
`

const tablesText = `
language tables
inputs table
symbol table table
symbol number int
rule table = in0
rule table = transpose(table)
rule table = fill(table)
rule table = pivot(table)
rule table = droprow(table, number)
rule table = dropcolumn(table, number)
rule table = sorttable(table, number)
rule table = unpivot(table, number)
rule table = stack(table, table)
rule table = beside(table, table)
rule number = 0
rule number = 1
`

// texts returns the texts of the included languages, in their order.
func texts() []string {
	return []string{stringsText, patternsText, listsText, vectorsText, tablesText}
}

// P16.1 to P16.6: the symbols and the rules of the included languages, in their order.
func TestGet(t *testing.T) {
	names := languages.Names()
	if want := []string{"strings", "patterns", "lists", "vectors", "tables"}; !slices.Equal(names, want) {
		t.Fatal(names)
	}
	for i, name := range names {
		l, e := languages.Get(name)
		if e != api.OK || l.Name != name {
			t.Errorf("Get of %s is %s, %d", name, l.Name, e)
		}
		if got, want := printed(t, l), strings.TrimSpace(texts()[i]); got != want {
			t.Errorf("%s is\n%s\nand not\n%s", name, got, want)
		}
	}
	for _, name := range []string{"", "list", "Lists", "lists ", "reshaping", "text", "strings\x00", strings.Repeat("lists", 1000)} {
		if l, e := languages.Get(name); e != api.ErrName || !isEmpty(l) {
			t.Errorf("Get of %q is %v, %d", name, l, e)
		}
	}
}

// P16.1: Get returns the languages with these constants.
func TestGetConstants(t *testing.T) {
	words, e1 := languages.Strings([]string{" ", "-", "."}, []int64{0, 1, -1})
	patterns, e2 := languages.Patterns("ab")
	lists, e3 := languages.Lists([]int64{0, 1, 2})
	vectors, e4 := languages.Vectors([]int64{1, 15, 128})
	tables, e5 := languages.Reshaping([]int64{0, 1})
	for i, e := range []api.Errno{e1, e2, e3, e4, e5} {
		if e != api.OK {
			t.Errorf("case %d: %d", i, e)
		}
	}
	for _, l := range []api.Language{words, patterns, lists, vectors, tables} {
		if got, e := languages.Get(l.Name); e != api.OK || !grammar.Same(got, l) {
			t.Errorf("Get of %s is %v, %d", l.Name, got, e)
		}
	}
}

// checkLanguage checks what P16.7 says of every language.
func checkLanguage(t *testing.T, l api.Language) {
	t.Helper()
	if e := grammar.Check(l); e != api.OK || !grammar.Productive(l)[0] {
		t.Errorf("%v: %d", l, e)
	}
	rules := ruleTexts(t, l)
	different := slices.Compact(slices.Sorted(slices.Values(rules)))
	if len(rules) != len(l.Rules) || len(different) != len(rules) {
		t.Errorf("%s has the rules %v", l.Name, rules)
	}
}

// ruleTexts returns the lines of the rules of a language.
func ruleTexts(t *testing.T, l api.Language) []string {
	t.Helper()
	isOther := func(line string) bool { return !strings.HasPrefix(line, "rule ") }
	return slices.DeleteFunc(strings.Split(printed(t, l), "\n"), isOther)
}

// P16.7: all numbers of constants that are permitted.
func TestNumbersOfConstants(t *testing.T) {
	var words []string
	var numbers []int64
	alphabet := ""
	for n := range 17 {
		for _, x := range []struct {
			make  func() (api.Language, api.Errno)
			rules int
		}{
			{func() (api.Language, api.Errno) { return languages.Strings(words, nil) }, 12 + n},
			{func() (api.Language, api.Errno) { return languages.Strings(nil, numbers) }, 12 + n},
			{func() (api.Language, api.Errno) { return languages.Strings(words, numbers) }, 12 + 2*n},
			{func() (api.Language, api.Errno) { return languages.Lists(numbers) }, 21 + n},
			{func() (api.Language, api.Errno) { return languages.Vectors(numbers) }, 15 + n},
			{func() (api.Language, api.Errno) { return languages.Reshaping(numbers) }, 10 + n},
		} {
			l, e := x.make()
			if e != api.OK || len(l.Rules) != x.rules {
				t.Errorf("%s of %d constants has %d rules, and the error %d", l.Name, n, len(l.Rules), e)
			}
			checkLanguage(t, l)
		}
		if l, e := languages.Patterns(alphabet); n > 0 {
			checkLanguage(t, l)
			if e != api.OK || len(l.Rules) != 5+n {
				t.Errorf("patterns of %d bytes has %d rules, and the error %d", n, len(l.Rules), e)
			}
		}
		words = append(words, strings.Repeat("w", n))
		numbers = append(numbers, int64(n)*int64(n))
		alphabet += string(rune('(' + n))
	}
}

// constantRules returns the constants of a symbol, each as its literal, and the indices of their rules.
func constantRules(t *testing.T, l api.Language, symbol int) ([]string, []int) {
	t.Helper()
	var literals []string
	var rules []int
	for i, line := range ruleTexts(t, l) {
		if r := l.Rules[i]; r.Kind == api.RuleConst && r.Symbol == symbol {
			_, literal, _ := strings.Cut(line, " = ")
			literals, rules = append(literals, literal), append(rules, i)
		}
	}
	return literals, rules
}

// P16.2 to P16.6: where the constants stand, and in which order.
func TestConstants(t *testing.T) {
	words, _ := languages.Strings([]string{"b", "", "a\"", "ab"}, []int64{7, -1000000, 1000000})
	patterns, _ := languages.Patterns("z(a* ")
	lists, _ := languages.Lists([]int64{9, -9, 0})
	vectors, _ := languages.Vectors([]int64{255, 0})
	tables, _ := languages.Reshaping([]int64{1, -5})
	for _, x := range []struct {
		l        api.Language
		symbol   int
		literals []string
		first    int
	}{
		{words, 0, []string{`"b"`, `""`, `"a\""`, `"ab"`}, 1},
		{words, 1, []string{"7", "-1000000", "1000000"}, 14},
		{patterns, 0, nil, 0},
		{patterns, 1, nil, 0},
		{patterns, 2, []string{`r"z"`, `r"\\("`, `r"a"`, `r"\\*"`, `r" "`}, 2},
		{lists, 0, nil, 0},
		{lists, 1, []string{"9", "-9", "0"}, 13},
		{vectors, 0, []string{"0xff", "0x00"}, 1},
		{vectors, 1, []string{"1", "2", "4"}, 13},
		{tables, 0, nil, 0},
		{tables, 1, []string{"1", "-5"}, 10},
	} {
		literals, rules := constantRules(t, x.l, x.symbol)
		if !slices.Equal(literals, x.literals) {
			t.Errorf("the symbol %d of %s has the constants %v", x.symbol, x.l.Name, literals)
		}
		for i, rule := range rules {
			if rule != x.first+i {
				t.Errorf("the symbol %d of %s has constants as the rules %v", x.symbol, x.l.Name, rules)
			}
		}
	}
}

// DOC.md, rule 5: the languages share no memory with each other, and the arguments stay as they are.
func TestMemory(t *testing.T) {
	words, numbers := []string{"a", "b"}, []int64{3, 4}
	first := make([]api.Language, 0, 10)
	all := func() []api.Language {
		l1, _ := languages.Strings(words, numbers)
		l2, _ := languages.Lists(numbers)
		l3, _ := languages.Vectors(numbers)
		l4, _ := languages.Reshaping(numbers)
		languagesOf := []api.Language{l1, l2, l3, l4}
		for _, name := range languages.Names() {
			l, _ := languages.Get(name)
			languagesOf = append(languagesOf, l)
		}
		return languagesOf
	}
	first = append(first, all()...)
	for _, l := range all() {
		l.Inputs[0], l.Symbols[0] = -7, api.Symbol{Name: "spoiled"}
		for i, r := range l.Rules {
			for k := range r.Args {
				r.Args[k] = -7 - i - k
			}
		}
	}
	for i, l := range all() {
		if !grammar.Same(l, first[i]) || grammar.Check(first[i]) != api.OK {
			t.Errorf("%s is changed", l.Name)
		}
	}
	// The rules of one language do not share their arguments.
	for i, l := range all() {
		for k, r := range l.Rules {
			for a := range r.Args {
				r.Args[a] = -7 - k
			}
		}
		for k, r := range l.Rules {
			if slices.ContainsFunc(r.Args, func(arg int) bool { return arg != -7-k }) {
				t.Errorf("the rule %d of %s shares its arguments", k, first[i].Name)
			}
		}
	}
	if !slices.Equal(words, []string{"a", "b"}) || !slices.Equal(numbers, []int64{3, 4}) {
		t.Error(words, numbers)
	}
	names := languages.Names()
	names[0] = "spoiled"
	if languages.Names()[0] != "strings" {
		t.Error(languages.Names())
	}
}
