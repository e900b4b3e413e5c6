package refine_test

import (
	"slices"
	"testing"

	"synthesis/api"
	"synthesis/formula"
	"synthesis/spacetest"
	"synthesis/statetest"
	"synthesis/value"
)

// number returns the example with one input and an output that are integers.
func number(in, out int64) api.Example {
	return api.Example{Inputs: []api.Value{value.OfInt(in)}, Output: value.OfInt(out)}
}

// doubling returns the language of the document's examples.
func doubling() api.Language {
	return statetest.Language("language doubling\ninputs int\nsymbol S int\nrule S = in0\nrule S = add(S, S)\n")
}

// A sample is a version space of a language with few programs, and tuples that fit the language.
type sample struct {
	l        api.Language
	s        api.Space
	tuples   [][]api.Value
	programs spacetest.Set
}

// samples returns version spaces of all languages that the tests of these layers share. Their roots have all symbols.
func samples(d *spacetest.Dice, count int) []sample {
	var list []sample
	for _, x := range statetest.Families() {
		for range count {
			s := spacetest.RulesOf(x.Language).Random(d, d.Roll(16))
			list = append(list, sample{x.Language, s, x.Tuples, spacetest.Programs(s)})
		}
	}
	return list
}

// example returns an example with the inputs of a tuple: its output is that of a program, or another one.
func (x sample) example(d *spacetest.Dice) api.Example {
	tuple := x.tuples[d.Roll(len(x.tuples))]
	least, _ := value.Default(x.l.Symbols[0].Type)
	outputs := []api.Value{least}
	for _, t := range x.programs.Sorted() {
		if o := x.outcome(t, tuple); o.Value.Type == least.Type {
			outputs = append(outputs, o.Value)
		}
	}
	return api.Example{Inputs: tuple, Output: outputs[d.Roll(len(outputs))]}
}

func (x sample) outcome(t api.Term, tuple []api.Value) api.Outcome {
	return statetest.Outcomes(x.l, t, [][]api.Value{tuple})[0]
}

// matches reports whether the outcome of a term is the output of an example.
func (x sample) matches(t api.Term, e api.Example) bool {
	o := x.outcome(t, e.Inputs)
	return o.Errno == api.OK && value.Equal(o.Value, e.Output)
}

// satisfies reports whether the outcomes of a term are what a specification requires.
func (x sample) satisfies(t api.Term, p api.Spec, tuples [][]api.Value) bool {
	for _, e := range p.Examples {
		if !x.matches(t, e) {
			return false
		}
	}
	for _, tuple := range tuples {
		if o := x.outcome(t, tuple); o.Errno != api.OK || !formula.Holds(p.Formula, tuple, o.Value) {
			return false
		}
	}
	return true
}

// checkSpace checks that a result is the canonical version space of these programs.
func checkSpace(t *testing.T, l api.Language, programs spacetest.Set) func(s api.Space, e api.Errno) api.Space {
	return func(s api.Space, e api.Errno) api.Space {
		t.Helper()
		if want := spacetest.RulesOf(l).Canonical(programs); e != api.OK || !spacetest.Equal(s, want) {
			t.Fatalf("%s: %v, %d, not %v", l.Name, s, e, want)
		}
		return s
	}
}

// axes returns a domain with the values that some tuples have for each input.
func axes(inputs int, tuples [][]api.Value) api.Domain {
	d := api.Domain{Axes: make([][]api.Value, inputs)}
	for i := range d.Axes {
		for _, tuple := range tuples {
			isSame := func(v api.Value) bool { return value.Equal(v, tuple[i]) }
			if !slices.ContainsFunc(d.Axes[i], isSame) {
				d.Axes[i] = append(d.Axes[i], tuple[i])
			}
		}
	}
	return d
}

func always() api.Formula { return api.Formula{Kind: api.FormTrue} }

func output() api.Operand { return api.Operand{Kind: api.OperandOutput} }

func constant(v api.Value) api.Operand { return api.Operand{Kind: api.OperandConst, Const: v} }
