package formula

import "synthesis/api"

// A visitor has what is done with each part of a formula, and with its level. An error ends the visit.
type visitor struct {
	formula func(f api.Formula, level int) api.Errno
	operand func(x api.Operand, level int) api.Errno
}

// visit goes through the parts of f in preorder.
func (v visitor) visit(f api.Formula, level int) api.Errno {
	if e := v.formula(f, level); e != api.OK {
		return e
	}
	for _, sub := range f.Subs {
		if e := v.visit(sub, level+1); e != api.OK {
			return e
		}
	}
	for _, x := range operands(f) {
		if e := v.visitOperand(x, 1); e != api.OK {
			return e
		}
	}
	return api.OK
}

// visitOperand goes through the parts of x in preorder.
func (v visitor) visitOperand(x api.Operand, level int) api.Errno {
	if e := v.operand(x, level); e != api.OK {
		return e
	}
	for _, sub := range x.Subs {
		if e := v.visitOperand(sub, level+1); e != api.OK {
			return e
		}
	}
	return api.OK
}

// operands returns the operands that a formula of its kind has.
func operands(f api.Formula) []api.Operand {
	switch f.Kind {
	case api.FormEqual, api.FormLess:
		return []api.Operand{f.Left, f.Right}
	case api.FormIs:
		return []api.Operand{f.Left}
	}
	return nil
}
