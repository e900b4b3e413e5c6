package formula

import (
	"strconv"
	"strings"

	"synthesis/api"
	"synthesis/literal"
)

// kindNames has the name of each kind of formulas at the kind's number. No kind has the number 0.
var kindNames = [...]string{"", "true", "false", "not", "and", "or", "eq", "lt", "is"}

// formulaText returns the text of a proper formula.
func formulaText(f api.Formula) string {
	var b strings.Builder
	writeFormula(&b, f)
	return b.String()
}

func writeFormula(b *strings.Builder, f api.Formula) {
	b.WriteString(kindNames[f.Kind])
	switch f.Kind {
	case api.FormNot, api.FormAnd, api.FormOr:
		writeList(b, f.Subs, writeFormula)
	case api.FormEqual, api.FormLess, api.FormIs:
		writeList(b, operands(f), writeOperand)
	}
}

func writeOperand(b *strings.Builder, x api.Operand) {
	switch x.Kind {
	case api.OperandOutput:
		b.WriteString("out")
	case api.OperandInput:
		b.WriteString(inputName(x.Input))
	case api.OperandConst:
		// The constants of a proper formula are valid, so all of them have literals.
		text, _ := literal.Print(x.Const)
		b.WriteString(text)
	case api.OperandOp:
		b.WriteString(x.Op)
		writeList(b, x.Subs, writeOperand)
	}
}

func inputName(input int) string { return "in" + strconv.Itoa(input) }

// writeList writes the parts of a formula or of an operand between parentheses.
func writeList[P any](b *strings.Builder, list []P, write func(*strings.Builder, P)) {
	b.WriteByte('(')
	for i, part := range list {
		if i > 0 {
			b.WriteString(", ")
		}
		write(b, part)
	}
	b.WriteByte(')')
}
