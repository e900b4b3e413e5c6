package formula

import (
	"synthesis/api"
	"synthesis/operator"
	"synthesis/value"
)

// checkForm returns OK if f is proper.
func checkForm(f api.Formula) api.Errno {
	return visitor{checkFormulaForm, checkOperandForm}.visit(f, 1)
}

func checkFormulaForm(f api.Formula, level int) api.Errno {
	if level > api.MaxDepth {
		return api.ErrSize
	}
	if !hasForm(f) {
		return api.ErrForm
	}
	return api.OK
}

// hasForm reports whether f has one of the kinds, and only what its kind uses.
func hasForm(f api.Formula) bool {
	switch f.Kind {
	case api.FormNot:
		if len(f.Subs) != 1 {
			return false
		}
		fallthrough
	case api.FormAnd, api.FormOr:
		return isZero(f.Left) && isZero(f.Right)
	case api.FormTrue, api.FormFalse:
		if !isZero(f.Left) {
			return false
		}
		fallthrough
	case api.FormIs:
		if !isZero(f.Right) {
			return false
		}
		fallthrough
	case api.FormEqual, api.FormLess:
		return len(f.Subs) == 0
	}
	return false
}

func isZero(x api.Operand) bool {
	return x.Kind == 0 && x.Input == 0 && isZeroValue(x.Const) && isNoOperator(x)
}

func isZeroValue(v api.Value) bool { return value.Equal(v, api.Value{}) }

func isNoOperator(x api.Operand) bool { return x.Op == "" && len(x.Subs) == 0 }

func checkOperandForm(x api.Operand, level int) api.Errno {
	if level > api.MaxDepth {
		return api.ErrSize
	}
	if !operandHasForm(x) {
		return api.ErrForm
	}
	switch x.Kind {
	case api.OperandInput:
		if !isIndex(x.Input, api.MaxInputs) {
			return api.ErrRange
		}
	case api.OperandConst:
		return value.Check(x.Const)
	case api.OperandOp:
		return checkOperator(x)
	}
	return api.OK
}

// operandHasForm reports whether x has one of the kinds, and only what its kind uses.
func operandHasForm(x api.Operand) bool {
	switch x.Kind {
	case api.OperandOutput:
		return x.Input == 0 && isZeroValue(x.Const) && isNoOperator(x)
	case api.OperandInput:
		return isZeroValue(x.Const) && isNoOperator(x)
	case api.OperandConst:
		return x.Input == 0 && isNoOperator(x)
	case api.OperandOp:
		return x.Input == 0 && isZeroValue(x.Const)
	}
	return false
}

// checkOperator checks that the operator of x is known, and has as many arguments as x.
func checkOperator(x api.Operand) api.Errno {
	o, isKnown := operator.Find(x.Op)
	if !isKnown {
		return api.ErrName
	}
	if len(x.Subs) != len(o.Args) {
		return api.ErrSize
	}
	return api.OK
}

func isIndex(i, count int) bool { return 0 <= i && i < count }
