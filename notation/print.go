package notation

import (
	"strconv"
	"strings"

	"synthesis/api"
	"synthesis/literal"
	"synthesis/value"
)

// termText returns the text of a term. It is a term of the language, which is valid.
func termText(l api.Language, t api.Term) string {
	var b strings.Builder
	writeTerm(&b, l.Rules, t)
	return b.String()
}

func writeTerm(b *strings.Builder, rules []api.Rule, t api.Term) {
	writeRule(b, rules[t.Rule], func(i int) { writeTerm(b, rules, t.Args[i]) })
}

// writeRule writes the text of a rule, in which writeArg writes the argument with a number.
func writeRule(b *strings.Builder, r api.Rule, writeArg func(i int)) {
	switch r.Kind {
	case api.RuleInput:
		b.WriteString("in")
		b.WriteString(strconv.Itoa(r.Input))
	case api.RuleConst:
		// The constants of a valid language are valid, so all of them have literals.
		text, _ := literal.Print(r.Const)
		b.WriteString(text)
	case api.RuleOp:
		b.WriteString(r.Op)
		b.WriteByte('(')
		for i := range r.Args {
			if i > 0 {
				b.WriteString(", ")
			}
			writeArg(i)
		}
		b.WriteByte(')')
	}
}

// languageText returns the text of a valid language.
func languageText(l api.Language) string {
	var b strings.Builder
	writeLine(&b, "language", l.Name)
	inputs := []string{"inputs"}
	for _, t := range l.Inputs {
		inputs = append(inputs, value.TypeName(t))
	}
	writeLine(&b, inputs...)
	for _, s := range l.Symbols {
		writeLine(&b, "symbol", s.Name, value.TypeName(s.Type))
	}
	for _, r := range l.Rules {
		writeLine(&b, "rule", l.Symbols[r.Symbol].Name, "=", ruleText(l, r))
	}
	return b.String()
}

// writeLine writes a line of words with single spaces between them.
func writeLine(b *strings.Builder, words ...string) {
	b.WriteString(strings.Join(words, " "))
	b.WriteByte('\n')
}

// ruleText returns the text of a rule of a valid language, with the names of symbols as arguments.
func ruleText(l api.Language, r api.Rule) string {
	var b strings.Builder
	writeRule(&b, r, func(i int) { b.WriteString(l.Symbols[r.Args[i]].Name) })
	return b.String()
}
