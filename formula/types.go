package formula

import (
	"synthesis/api"
	"synthesis/operator"
)

// A typing has the types of the inputs and of the output.
type typing struct {
	inputs []int
	output int
}

// checkTypes checks the inputs and the types in f, which is proper.
func checkTypes(f api.Formula, inputs []int, output int) api.Errno {
	t := typing{inputs, output}
	return visitor{t.checkFormula, t.checkOperand}.visit(f, 1)
}

func (t typing) checkFormula(f api.Formula, _ int) api.Errno {
	switch f.Kind {
	case api.FormEqual, api.FormLess:
		left := t.of(f.Left)
		if left == 0 || left != t.of(f.Right) {
			return api.ErrType
		}
	}
	return api.OK
}

func (t typing) checkOperand(x api.Operand, _ int) api.Errno {
	switch x.Kind {
	case api.OperandInput:
		if !isIndex(x.Input, len(t.inputs)) {
			return api.ErrRange
		}
	case api.OperandOp:
		o, _ := operator.Find(x.Op)
		for i, sub := range x.Subs {
			if t.of(sub) != o.Args[i] {
				return api.ErrType
			}
		}
	}
	return api.OK
}

// of returns the type of an operand, or 0 for an input that does not exist.
func (t typing) of(x api.Operand) int {
	switch x.Kind {
	case api.OperandOutput:
		return t.output
	case api.OperandInput:
		if isIndex(x.Input, len(t.inputs)) {
			return t.inputs[x.Input]
		}
	case api.OperandConst:
		return x.Const.Type
	case api.OperandOp:
		o, _ := operator.Find(x.Op)
		return o.Result
	}
	return 0
}
