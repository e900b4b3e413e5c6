package states

import (
	"synthesis/api"
	"synthesis/eval"
	"synthesis/operator"
)

// An Operation tells the outcome of a rule with an operator from the values of its arguments.
type Operation func(rule int, args []api.Value) api.Outcome

// Operators returns the operation that applies the operators of a language.
func Operators(l api.Language) Operation {
	return func(rule int, args []api.Value) api.Outcome {
		v, e := operator.Apply(l.Rules[rule].Op, args)
		return api.Outcome{Value: v, Errno: e}
	}
}

// A Row has the outcomes of a term on all tuples, and their key. The terms that have the same outcomes share them.
type Row struct {
	Outcomes []api.Outcome
	Key      string
	// number tells the row from the others that were found with it.
	number int
}

// KeyOf returns the key of the row of a term that has these outputs.
func KeyOf(outputs []api.Value) string {
	var outcomes []api.Outcome
	for _, v := range outputs {
		outcomes = append(outcomes, api.Outcome{Value: v})
	}
	return eval.Key(outcomes)
}

// Rows finds the rows of terms, and numbers them.
type Rows struct {
	language api.Language
	tuples   [][]api.Value
	apply    Operation
	// byKey has the rows that have been found, and byParts those of the terms with a rule at their root whose arguments have some rows.
	byKey   map[string]Row
	byParts map[parts]Row
}

// parts has a rule, and the numbers of the rows of its arguments.
type parts struct {
	rule int
	args [api.MaxArgs]int
}

// RowsOf returns the rows of a valid language on tuples that fit it.
func RowsOf(l api.Language, tuples [][]api.Value, apply Operation) Rows {
	return Rows{l, tuples, apply, map[string]Row{}, map[parts]Row{}}
}

// Of returns the row of the terms with a rule at their root whose arguments have these rows. Its outcomes share no memory with the language and the tuples.
func (r Rows) Of(rule int, args []Row) Row {
	p := parts{rule: rule}
	for i, arg := range args {
		p.args[i] = arg.number
	}
	x, isKnown := r.byParts[p]
	if !isKnown {
		x = r.named(r.outcomes(rule, args))
		r.byParts[p] = x
	}
	return x
}

// named returns the row with these outcomes. Terms of different symbols and sizes often have the same ones.
func (r Rows) named(list []api.Outcome) Row {
	key := eval.Key(list)
	x, isKnown := r.byKey[key]
	if !isKnown {
		x = Row{list, key, len(r.byKey)}
		r.byKey[key] = x
	}
	return x
}

func (r Rows) outcomes(rule int, args []Row) []api.Outcome {
	if r.language.Rules[rule].Kind != api.RuleOp {
		// There is no error: the rule is a term, and the tuples fit the language.
		outcomes, _ := eval.Outcomes(r.language, api.Term{Rule: rule}, r.tuples)
		return outcomes
	}
	outcomes := make([]api.Outcome, len(r.tuples))
	for k := range outcomes {
		outcomes[k] = r.outcome(rule, args, k)
	}
	return outcomes
}

// outcome returns the outcome of a rule with an operator on the tuple number k.
func (r Rows) outcome(rule int, args []Row, k int) api.Outcome {
	values := make([]api.Value, len(args))
	for i, arg := range args {
		o := arg.Outcomes[k]
		if o.Errno != api.OK {
			return o
		}
		values[i] = o.Value
	}
	return r.apply(rule, values)
}
