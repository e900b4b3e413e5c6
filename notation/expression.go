package notation

import (
	"strings"

	"synthesis/api"
	"synthesis/literal"
	"synthesis/operator"
	"synthesis/value"
)

// An expression is an input, a constant, or an operator with its arguments.
type expression struct {
	// root has the fields of a rule with this text, apart from its symbols.
	root api.Rule
	args []expression
}

// A fault is the offset with which a reader leaves its functions by a panic.
type fault int

// readExpression returns the expression that is written as s, or the fault of s and ErrSyntax.
func readExpression(s string) (x expression, at int, e api.Errno) {
	defer func() {
		if f, isFault := recover().(fault); isFault {
			x, at, e = expression{}, int(f), api.ErrSyntax
		}
	}()
	r := reader{text: s}
	x = r.expression()
	r.demand(r.at == len(s))
	return x, 0, api.OK
}

// A reader reads expressions from the front of a text.
type reader struct {
	text string
	at   int
}

// demand ends the reading unless what must stand at the offset is there.
func (r *reader) demand(isThere bool) {
	if !isThere {
		panic(fault(r.at))
	}
}

// expect reads the bytes of s.
func (r *reader) expect(s string) {
	for i := range len(s) {
		r.demand(r.at < len(r.text) && r.text[r.at] == s[i])
		r.at++
	}
}

func (r *reader) expression() expression {
	word := leadingWord(r.text[r.at:])
	if input, isInput := inputNumber(word); isInput {
		r.at += len(word)
		return expression{root: api.Rule{Kind: api.RuleInput, Input: input}}
	}
	if r.hasLiteral(word) {
		return r.constant()
	}
	return r.application(word)
}

// hasLiteral reports whether a literal must stand at the offset, where the word stands.
func (r *reader) hasLiteral(word string) bool {
	switch word {
	case "", "true", "false":
		return true
	case "r":
		return strings.HasPrefix(r.text[r.at:], `r"`)
	}
	return false
}

// constant reads the longest literal that stands at the offset.
func (r *reader) constant() expression {
	v, length, isLiteral := leadingLiteral(r.text[r.at:])
	r.at += length
	r.demand(isLiteral)
	return expression{root: api.Rule{Kind: api.RuleConst, Const: v}}
}

// application reads an operator, whose name must be the word at the offset, and its arguments.
func (r *reader) application(word string) expression {
	o, isKnown := operator.Find(word)
	r.demand(isKnown)
	r.at += len(word)
	x := expression{root: api.Rule{Kind: api.RuleOp, Op: o.Name}}
	r.expect("(")
	for i := range o.Args {
		if i > 0 {
			r.expect(", ")
		}
		x.args = append(x.args, r.expression())
	}
	r.expect(")")
	return x
}

// leadingWord returns the letters and digits with which s begins, if the first one is a letter.
func leadingWord(s string) string {
	n := 0
	for n < len(s) && (isLetter(s[n]) || n > 0 && isDigit(s[n])) {
		n++
	}
	return s[:n]
}

// leadingLiteral returns the value and the length of the longest literal with which s begins. If there is none, it returns the fault of s and false.
func leadingLiteral(s string) (api.Value, int, bool) {
	v, at, e := literal.Parse(s)
	if e == api.OK {
		return v, len(s), true
	}
	if v, _, e := literal.Parse(s[:at]); e == api.OK {
		return v, at, true
	}
	// What stands before the fault goes on to a literal. It begins with another one only if that is the number 0, and goes on to a bit vector.
	if strings.HasPrefix(s, "0") {
		return value.OfInt(0), 1, true
	}
	return api.Value{}, at, false
}

// inputNumber returns the number of the input that is written as s, and whether there is one.
func inputNumber(s string) (int, bool) {
	digit, hasPrefix := strings.CutPrefix(s, "in")
	if !hasPrefix || len(digit) != 1 {
		return 0, false
	}
	n := int(digit[0]) - '0'
	return n, isIndex(n, api.MaxInputs)
}

func isLetter(c byte) bool { return 'a' <= c && c <= 'z' || 'A' <= c && c <= 'Z' }

func isDigit(c byte) bool { return '0' <= c && c <= '9' }
