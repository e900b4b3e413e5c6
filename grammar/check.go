package grammar

import (
	"slices"

	"synthesis/api"
	"synthesis/operator"
	"synthesis/value"
)

// Check returns OK if l is a valid language, and otherwise the first violation.
func Check(l api.Language) api.Errno {
	if !isName(l.Name) {
		return api.ErrName
	}
	if e := checkInputs(l.Inputs); e != api.OK {
		return e
	}
	if e := checkSymbols(l.Symbols); e != api.OK {
		return e
	}
	return checkRules(l)
}

// isName reports whether s is a name of a language or of a symbol.
func isName(s string) bool {
	if len(s) < 1 || len(s) > api.MaxName || !isLetter(s[0]) {
		return false
	}
	for i := range len(s) {
		if c := s[i]; !isLetter(c) && c != '-' && (c < '0' || c > '9') {
			return false
		}
	}
	return true
}

func isLetter(c byte) bool { return 'a' <= c && c <= 'z' || 'A' <= c && c <= 'Z' }

func isType(t int) bool { return value.TypeName(t) != "" }

func isIndex(i, count int) bool { return 0 <= i && i < count }

func checkInputs(inputs []int) api.Errno {
	if len(inputs) > api.MaxInputs {
		return api.ErrSize
	}
	for _, t := range inputs {
		if !isType(t) {
			return api.ErrType
		}
	}
	return api.OK
}

func checkSymbols(symbols []api.Symbol) api.Errno {
	if len(symbols) < 1 || len(symbols) > api.MaxSymbols {
		return api.ErrSize
	}
	for i, s := range symbols {
		if !isName(s.Name) {
			return api.ErrName
		}
		hasSameName := func(earlier api.Symbol) bool { return earlier.Name == s.Name }
		if slices.ContainsFunc(symbols[:i], hasSameName) {
			return api.ErrTwice
		}
		if !isType(s.Type) {
			return api.ErrType
		}
	}
	return api.OK
}

// checkRules checks the rules of a language whose inputs and symbols are valid.
func checkRules(l api.Language) api.Errno {
	if len(l.Rules) > api.MaxRules {
		return api.ErrSize
	}
	for i, r := range l.Rules {
		if e := checkRule(l, r); e != api.OK {
			return e
		}
		isSame := func(earlier api.Rule) bool { return isSameRule(earlier, r) }
		if slices.ContainsFunc(l.Rules[:i], isSame) {
			return api.ErrTwice
		}
	}
	return api.OK
}

func checkRule(l api.Language, r api.Rule) api.Errno {
	if !isIndex(r.Symbol, len(l.Symbols)) {
		return api.ErrRange
	}
	if hasUnusedField(r) {
		return api.ErrForm
	}
	switch r.Kind {
	case api.RuleInput:
		return checkInputRule(l, r)
	case api.RuleConst:
		return checkConstRule(l, r)
	case api.RuleOp:
		return checkOpRule(l, r)
	}
	return api.ErrForm
}

// hasUnusedField reports whether a field that the kind of r does not use is set.
func hasUnusedField(r api.Rule) bool {
	return r.Input != 0 && r.Kind != api.RuleInput ||
		!value.Equal(r.Const, api.Value{}) && r.Kind != api.RuleConst ||
		(r.Op != "" || len(r.Args) > 0) && r.Kind != api.RuleOp
}

func checkInputRule(l api.Language, r api.Rule) api.Errno {
	if !isIndex(r.Input, len(l.Inputs)) {
		return api.ErrRange
	}
	return checkType(l.Inputs[r.Input], l.Symbols[r.Symbol].Type)
}

func checkConstRule(l api.Language, r api.Rule) api.Errno {
	if e := value.Check(r.Const); e != api.OK {
		return e
	}
	return checkType(r.Const.Type, l.Symbols[r.Symbol].Type)
}

func checkOpRule(l api.Language, r api.Rule) api.Errno {
	o, isKnown := operator.Find(r.Op)
	if !isKnown {
		return api.ErrName
	}
	if len(r.Args) != len(o.Args) {
		return api.ErrSize
	}
	for i, arg := range r.Args {
		if !isIndex(arg, len(l.Symbols)) {
			return api.ErrRange
		}
		if e := checkType(l.Symbols[arg].Type, o.Args[i]); e != api.OK {
			return e
		}
	}
	return checkType(l.Symbols[r.Symbol].Type, o.Result)
}

func checkType(t, required int) api.Errno {
	if t != required {
		return api.ErrType
	}
	return api.OK
}
