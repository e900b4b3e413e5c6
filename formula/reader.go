package formula

import (
	"synthesis/api"
	"synthesis/literal"
	"synthesis/operator"
)

// An opening is what the text of a formula or of an operand begins with, and tells it from all others: a whole name, and the parenthesis after it if there is one.
type opening[P any] struct {
	text string
	// part is what begins with this text, without what stands in the parentheses.
	part P
	// needsSubs is true if the part has parts of the next level, whatever they are.
	needsSubs bool
}

func formulaOpenings() []opening[api.Formula] {
	var openings []opening[api.Formula]
	for kind := api.FormTrue; kind <= api.FormIs; kind++ {
		text := kindNames[kind]
		if kind != api.FormTrue && kind != api.FormFalse {
			text += "("
		}
		openings = append(openings, opening[api.Formula]{text, api.Formula{Kind: kind}, kind == api.FormNot})
	}
	return openings
}

// operandOpenings returns the openings of all operands but constants.
func operandOpenings() []opening[api.Operand] {
	openings := []opening[api.Operand]{{"out", api.Operand{Kind: api.OperandOutput}, false}}
	for input := range api.MaxInputs {
		openings = append(openings, opening[api.Operand]{inputName(input), api.Operand{Kind: api.OperandInput, Input: input}, false})
	}
	for _, name := range operator.Names() {
		openings = append(openings, opening[api.Operand]{name + "(", api.Operand{Kind: api.OperandOp, Op: name}, true})
	}
	return openings
}

// A reader reads a formula from the front of a text. It never passes a byte with which no proper formula can go on,
// so that after a failure, which its methods report by false, the offset at is the fault.
type reader struct {
	text     string
	at       int
	formulas []opening[api.Formula]
	operands []opening[api.Operand]
}

func newReader(s string) *reader {
	return &reader{text: s, formulas: formulaOpenings(), operands: operandOpenings()}
}

func (r *reader) atEnd() bool { return r.at == len(r.text) }

// expect reads the bytes of s, or as many of them as there are.
func (r *reader) expect(s string) bool {
	n := common(r.text[r.at:], s)
	r.at += n
	return n == len(s)
}

// common returns the number of bytes with which both a and b begin.
func common(a, b string) int {
	n := 0
	for n < len(a) && n < len(b) && a[n] == b[n] {
		n++
	}
	return n
}

// formula reads a formula of the level.
func (r *reader) formula(level int) (api.Formula, bool) {
	f, ok := readOpening(r, r.formulas, level)
	if !ok {
		return f, false
	}
	sub := func() (api.Formula, bool) { return r.formula(level + 1) }
	switch f.Kind {
	case api.FormNot:
		f.Subs, ok = readList(r, 1, 1, sub)
	case api.FormAnd, api.FormOr:
		most := len(r.text)
		if level == api.MaxDepth {
			most = 0
		}
		f.Subs, ok = readList(r, 0, most, sub)
	case api.FormEqual, api.FormLess:
		ok = r.atom(&f.Left, &f.Right)
	case api.FormIs:
		ok = r.atom(&f.Left)
	}
	return f, ok
}

// atom reads the operands of an atom, which are kept in these places.
func (r *reader) atom(places ...*api.Operand) bool {
	list, ok := readList(r, len(places), len(places), func() (api.Operand, bool) { return r.operand(1) })
	for i, x := range list {
		*places[i] = x
	}
	return ok
}

// operand reads an operand of the level.
func (r *reader) operand(level int) (api.Operand, bool) {
	start := r.at
	x, ok := readOpening(r, r.operands, level)
	if !ok {
		return r.constant(start)
	}
	if x.Kind == api.OperandOp {
		o, _ := operator.Find(x.Op)
		x.Subs, ok = readList(r, len(o.Args), len(o.Args), func() (api.Operand, bool) { return r.operand(level + 1) })
	}
	return x, ok
}

// constant reads the literal at the offset start, where no other operand stands, although the first bytes of one may have been read.
func (r *reader) constant(start int) (api.Operand, bool) {
	v, length, isLiteral := leadingLiteral(r.text[start:])
	r.at = max(r.at, start+length)
	return api.Operand{Kind: api.OperandConst, Const: v}, isLiteral
}

// leadingLiteral returns the value and the length of the literal with which s begins. If there is none, it returns the fault of s and false.
func leadingLiteral(s string) (api.Value, int, bool) {
	v, fault, e := literal.Parse(s)
	if e == api.OK {
		return v, len(s), true
	}
	// What follows a literal in a formula goes on with no literal, so that the literal, if there is one, ends at the fault.
	v, _, e = literal.Parse(s[:fault])
	return v, fault, e == api.OK
}

// readOpening reads one of the openings that are possible on the level, or as many bytes of one as there are, and returns the part that it opens.
func readOpening[P any](r *reader, openings []opening[P], level int) (P, bool) {
	rest := r.text[r.at:]
	longest := 0
	for _, o := range openings {
		if o.needsSubs && level == api.MaxDepth {
			continue
		}
		n := common(rest, o.text)
		longest = max(longest, n)
		if n == len(o.text) {
			r.at += n
			return o.part, true
		}
	}
	r.at += longest
	var none P
	return none, false
}

// readList reads least to most parts with a comma and a space between two of them, and the closing parenthesis.
func readList[P any](r *reader, least, most int, read func() (P, bool)) ([]P, bool) {
	var list []P
	for len(list) < least || !r.expect(")") {
		if len(list) == most || len(list) > 0 && !r.expect(", ") {
			return nil, false
		}
		part, ok := read()
		if !ok {
			return nil, false
		}
		list = append(list, part)
	}
	return list, true
}
