package notation

import (
	"slices"
	"strings"

	"synthesis/api"
	"synthesis/grammar"
	"synthesis/literal"
	"synthesis/value"
)

// readLanguage returns the language whose lines s has, which need not be valid, and 0; or the number of the first line with an error, and the error.
func readLanguage(s string) (l api.Language, line int, e api.Errno) {
	defer func() {
		if f, isFault := recover().(api.Errno); isFault {
			l, e = api.Language{}, f
		}
	}()
	lines := strings.Split(s, "\n")
	last := len(lines) - 1
	var r languageReader
	for i := range last {
		line = i + 1
		r.line(i, lines[i])
	}
	// What stands after the last line feed is a line without one, or nothing. In the latter case, a line may be missing there.
	line = last + 1
	demand(lines[last] == "" && last >= 2, api.ErrSyntax)
	return r.language, 0, api.OK
}

// A languageReader reads a language line by line. An error ends the reading by a panic.
type languageReader struct {
	language api.Language
}

// demand ends the reading with the error unless what must hold does.
func demand(holds bool, e api.Errno) {
	if !holds {
		panic(e)
	}
}

// line reads the line with a number, counted from 0.
func (r *languageReader) line(n int, line string) {
	word, rest, hasRest := strings.Cut(line, " ")
	switch {
	case n == 0:
		demand(word == "language", api.ErrSyntax)
		r.language.Name = name(rest)
	case n == 1:
		demand(word == "inputs", api.ErrSyntax)
		if hasRest {
			r.inputs(rest)
		}
	case word == "symbol":
		demand(len(r.language.Rules) == 0, api.ErrSyntax)
		r.symbol(rest)
	default:
		demand(word == "rule", api.ErrSyntax)
		r.rule(rest)
	}
}

// inputs reads what follows the first word of the second line.
func (r *languageReader) inputs(s string) {
	for _, word := range strings.Split(s, " ") {
		r.language.Inputs = append(r.language.Inputs, typeNumber(word))
	}
}

// symbol reads what follows the first word of a line with a symbol.
func (r *languageReader) symbol(s string) {
	symbol, typeName, _ := strings.Cut(s, " ")
	r.language.Symbols = append(r.language.Symbols, api.Symbol{Name: name(symbol), Type: typeNumber(typeName)})
}

// rule reads what follows the first word of a line with a rule. Its names are looked up only when its form is known to be right.
func (r *languageReader) rule(s string) {
	symbol, text, _ := strings.Cut(s, " = ")
	rule, args := readRule(text)
	rule.Symbol = r.number(name(symbol))
	for _, arg := range args {
		rule.Args = append(rule.Args, r.number(arg))
	}
	r.language.Rules = append(r.language.Rules, rule)
}

// number returns the number of the symbol with a name. If several have it, the language is not valid.
func (r *languageReader) number(name string) int {
	n := slices.IndexFunc(r.language.Symbols, func(s api.Symbol) bool { return s.Name == name })
	demand(n >= 0, api.ErrName)
	return n
}

// readRule returns the rule with a text, apart from its symbols, and the names of its arguments.
func readRule(text string) (api.Rule, []string) {
	if input, isInput := inputNumber(text); isInput {
		return api.Rule{Kind: api.RuleInput, Input: input}, nil
	}
	if v, _, e := literal.Parse(text); e == api.OK {
		return api.Rule{Kind: api.RuleConst, Const: v}, nil
	}
	op, rest, _ := strings.Cut(text, "(")
	list, isClosed := strings.CutSuffix(rest, ")")
	demand(isClosed, api.ErrSyntax)
	var args []string
	if list != "" {
		args = strings.Split(list, ", ")
	}
	for _, arg := range args {
		name(arg)
	}
	return api.Rule{Kind: api.RuleOp, Op: name(op)}, args
}

// name returns s, which must have the form of a name.
func name(s string) string {
	// The name is the first thing that is checked in a language.
	demand(grammar.Check(api.Language{Name: s}) != api.ErrName, api.ErrSyntax)
	return s
}

// typeNumber returns the type whose name is s.
func typeNumber(s string) int {
	t, isType := value.ParseType(s)
	demand(isType, api.ErrSyntax)
	return t
}
