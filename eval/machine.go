package eval

import (
	"slices"

	"synthesis/api"
	"synthesis/operator"
)

// A machine evaluates terms on a tuple. The terms belong to the language with these rules, which the tuple fits.
type machine struct {
	rules  []api.Rule
	inputs []api.Value
}

// outcome returns the outcome of a term on a tuple.
func outcome(l api.Language, t api.Term, inputs []api.Value) api.Outcome {
	m := machine{l.Rules, inputs}
	return m.outcome(t)
}

func (m *machine) outcome(t api.Term) api.Outcome { return m.combine(t, m.outcome) }

// combine returns the outcome of a term whose arguments are evaluated by a function.
// The function is called for all arguments, even if one of them is undefined, because a trace has their outcomes, too.
func (m *machine) combine(t api.Term, evaluate func(api.Term) api.Outcome) api.Outcome {
	r := m.rules[t.Rule]
	switch r.Kind {
	case api.RuleInput:
		return api.Outcome{Value: clone(m.inputs[r.Input])}
	case api.RuleConst:
		return api.Outcome{Value: clone(r.Const)}
	}
	args := make([]api.Value, len(t.Args))
	isDefined := true
	for i, arg := range t.Args {
		o := evaluate(arg)
		args[i] = o.Value
		isDefined = isDefined && o.Errno == api.OK
	}
	if !isDefined {
		return api.Outcome{Errno: api.ErrUndefined}
	}
	v, e := operator.Apply(r.Op, args)
	return api.Outcome{Value: v, Errno: e}
}

// A tracer is a machine that keeps the outcomes of all terms that it evaluates, in preorder.
type tracer struct {
	machine
	outcomes []api.Outcome
}

// trace returns the outcomes of all subterms of a term on a tuple.
func trace(l api.Language, t api.Term, inputs []api.Value) []api.Outcome {
	r := tracer{machine: machine{l.Rules, inputs}}
	r.record(t)
	return r.outcomes
}

// record evaluates a term, and keeps its outcome before those of its arguments.
func (r *tracer) record(t api.Term) api.Outcome {
	place := len(r.outcomes)
	r.outcomes = append(r.outcomes, api.Outcome{})
	r.outcomes[place] = r.combine(t, r.record)
	return r.outcomes[place]
}

// clone returns a copy of v that shares no memory with it.
func clone(v api.Value) api.Value {
	v.Items = slices.Clone(v.Items)
	for i, item := range v.Items {
		v.Items[i] = clone(item)
	}
	return v
}
