package formula

import (
	"slices"

	"synthesis/api"
	"synthesis/operator"
	"synthesis/value"
)

// A situation is a tuple and an output, for which formulas hold or not. Only formulas that fit their types are examined.
type situation struct {
	inputs []api.Value
	output api.Value
}

// satisfies reports whether f holds.
func (s situation) satisfies(f api.Formula) bool {
	switch f.Kind {
	case api.FormTrue:
		return true
	case api.FormNot:
		return !s.satisfies(f.Subs[0])
	case api.FormAnd:
		return !slices.ContainsFunc(f.Subs, s.violates)
	case api.FormOr:
		return slices.ContainsFunc(f.Subs, s.satisfies)
	case api.FormEqual, api.FormLess, api.FormIs:
		return s.satisfiesAtom(f)
	}
	return false
}

func (s situation) violates(f api.Formula) bool { return !s.satisfies(f) }

func (s situation) satisfiesAtom(f api.Formula) bool {
	values, areDefined := s.values(operands(f))
	if !areDefined {
		return false
	}
	switch f.Kind {
	case api.FormEqual:
		return value.Equal(values[0], values[1])
	case api.FormLess:
		return value.Compare(values[0], values[1]) < 0
	}
	return true
}

// values returns the outcomes of operands, and whether all of them are defined.
func (s situation) values(list []api.Operand) ([]api.Value, bool) {
	values := make([]api.Value, len(list))
	for i, x := range list {
		v, isDefined := s.value(x)
		if !isDefined {
			return nil, false
		}
		values[i] = v
	}
	return values, true
}

// value returns the outcome of an operand, and whether it is defined.
func (s situation) value(x api.Operand) (api.Value, bool) {
	switch x.Kind {
	case api.OperandOutput:
		return s.output, true
	case api.OperandInput:
		return s.inputs[x.Input], true
	case api.OperandConst:
		return x.Const, true
	}
	args, areDefined := s.values(x.Subs)
	if !areDefined {
		return api.Value{}, false
	}
	v, e := operator.Apply(x.Op, args)
	return v, e == api.OK
}
