package literal

import (
	"strings"

	"synthesis/api"
	"synthesis/value"
)

// A reader reads literals from the front of a text. It never passes a byte with which no literal can go on,
// so that after a failure, which its methods report by false, the offset at is the fault.
type reader struct {
	text string
	at   int
}

func (r *reader) atEnd() bool { return r.at == len(r.text) }

// peek returns the next byte, or 0 at the end: no byte of a literal is 0.
func (r *reader) peek() byte {
	if r.atEnd() {
		return 0
	}
	return r.text[r.at]
}

// word reads the bytes of w, or as many of them as there are.
func (r *reader) word(w string) bool {
	for i := range len(w) {
		if r.peek() != w[i] {
			return false
		}
		r.at++
	}
	return true
}

func (r *reader) tuple() ([]api.Value, bool) {
	var values []api.Value
	for !r.atEnd() {
		if len(values) > 0 && !r.word(", ") {
			return nil, false
		}
		v, ok := r.value()
		if !ok {
			return nil, false
		}
		values = append(values, v)
	}
	return values, true
}

func (r *reader) value() (api.Value, bool) {
	switch r.peek() {
	case 't':
		return value.OfBool(true), r.word("true")
	case 'f':
		return value.OfBool(false), r.word("false")
	case '"':
		return r.quotedText()
	case 'r':
		return r.quotedPattern()
	case '[':
		items, ok := r.items("[]", 0, api.MaxItems, r.number)
		return api.Value{Type: api.Ints, Items: items}, ok
	case '{':
		return r.texts(0, api.MaxItems)
	case '<':
		return r.table()
	}
	if strings.HasPrefix(r.text[r.at:], "0x") {
		return r.bits()
	}
	return r.number()
}

// number stops before a digit that would make the number too great, or that follows a leading zero.
func (r *reader) number() (api.Value, bool) {
	sign := int64(1)
	if r.peek() == '-' {
		r.at++
		sign = -1
	}
	if !isDigit(r.peek()) || r.peek() == '0' && sign < 0 {
		return api.Value{}, false
	}
	n := r.digit()
	for n > 0 && isDigit(r.peek()) && 10*n+int64(r.peek()-'0') <= api.MaxInt {
		n = 10*n + r.digit()
	}
	return value.OfInt(sign * n), true
}

func (r *reader) digit() int64 {
	d := r.peek() - '0'
	r.at++
	return int64(d)
}

func isDigit(c byte) bool { return '0' <= c && c <= '9' }

// bits reads a bit vector. Its first two bytes are known to be 0x.
func (r *reader) bits() (api.Value, bool) {
	r.at += len("0x")
	var n int64
	for range 2 {
		d, ok := hexDigit(rune(r.peek()))
		if !ok {
			return api.Value{}, false
		}
		n = 16*n + int64(d)
		r.at++
	}
	return value.OfBits(n), true
}

func (r *reader) quotedText() (api.Value, bool) {
	s, ok := r.quoted(quotation{most: api.MaxText})
	return value.OfText(s), ok
}

// quotedPattern reads a pattern. Its first byte is known to be r.
func (r *reader) quotedPattern() (api.Value, bool) {
	r.at++
	s, ok := r.quoted(quotation{least: 1, most: api.MaxPattern})
	return value.OfPattern(s), ok
}

func (r *reader) texts(least, most int) (api.Value, bool) {
	items, ok := r.items("{}", least, most, r.quotedText)
	return api.Value{Type: api.Texts, Items: items}, ok
}

func (r *reader) table() (api.Value, bool) {
	// The first row may have any permitted number of cells, and the others must have as many.
	least, most := 1, api.MaxCols
	rows, ok := r.items("<>", 0, api.MaxRows, func() (api.Value, bool) {
		row, ok := r.texts(least, most)
		least, most = len(row.Items), len(row.Items)
		return row, ok
	})
	return api.Value{Type: api.Table, Items: rows}, ok
}

// items reads a list of least to most elements between the two bytes of brackets.
func (r *reader) items(brackets string, least, most int, element func() (api.Value, bool)) ([]api.Value, bool) {
	if !r.word(brackets[:1]) {
		return nil, false
	}
	var items []api.Value
	for len(items) < least || !r.word(brackets[1:]) {
		if len(items) == most || len(items) > 0 && !r.word(", ") {
			return nil, false
		}
		item, ok := element()
		if !ok {
			return nil, false
		}
		items = append(items, item)
	}
	return items, true
}
