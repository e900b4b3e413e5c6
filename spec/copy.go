package spec

import (
	"slices"

	"synthesis/api"
	"synthesis/value"
)

func sameAxis(a, b []api.Value) bool { return slices.EqualFunc(a, b, value.Equal) }

// The functions below return copies that share no memory with their arguments.

func clone(v api.Value) api.Value {
	v.Items = cloneAll(v.Items)
	return v
}

func cloneAll(values []api.Value) []api.Value { return mapped(values, clone) }

func cloneDomain(d api.Domain) api.Domain { return api.Domain{Axes: mapped(d.Axes, cloneAll)} }

func cloneFormula(f api.Formula) api.Formula {
	f.Subs = mapped(f.Subs, cloneFormula)
	f.Left = cloneOperand(f.Left)
	f.Right = cloneOperand(f.Right)
	return f
}

func cloneOperand(x api.Operand) api.Operand {
	x.Const = clone(x.Const)
	x.Subs = mapped(x.Subs, cloneOperand)
	return x
}

// mapped returns what the elements of a list become, in order.
func mapped[E any](list []E, become func(E) E) []E {
	list = slices.Clone(list)
	for i, x := range list {
		list[i] = become(x)
	}
	return list
}
