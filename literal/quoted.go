package literal

// The states of a quotation: what has been read since the last whole character.
const (
	whole     = iota // nothing
	escaped          // a backslash
	firstHex         // a backslash and x
	secondHex        // a backslash, x and a digit
)

// A quotation is the inside of a quoted text, as far as it has been read, and what may be in it:
// least to most bytes, and bytes that are written with \x only if anyByte is true.
type quotation struct {
	least, most int
	anyByte     bool
	content     []byte
	state       int
	high        byte
}

// quoted reads a quoted text whose inside is as q demands.
func (r *reader) quoted(q quotation) (string, bool) {
	if !r.word(`"`) {
		return "", false
	}
	start := r.at
	for i, c := range r.text[start:] {
		r.at = start + i
		if q.mayEnd() && c == '"' {
			r.at++
			return string(q.content), true
		}
		if !q.accept(c) {
			return "", false
		}
	}
	r.at = len(r.text)
	return "", false
}

func (q *quotation) mayEnd() bool { return q.state == whole && len(q.content) >= q.least }

// accept reads one more character, and reports whether it is permitted here.
func (q *quotation) accept(c rune) bool {
	switch q.state {
	case whole:
		return q.begin(c)
	case escaped:
		return q.escape(c)
	}
	d, ok := hexDigit(c)
	if !ok {
		return false
	}
	if q.state == firstHex {
		q.high, q.state = d, secondHex
		// The bytes that begin with other digits are all printable, and not written with \x.
		return d < ' '>>4 || d >= '~'>>4
	}
	b := q.high<<4 | d
	return !isPrintable(rune(b)) && q.add(b)
}

func (q *quotation) begin(c rune) bool {
	if c != '\\' {
		return c != '"' && isPrintable(c) && q.add(byte(c))
	}
	q.state = escaped
	return len(q.content) < q.most
}

func (q *quotation) escape(c rune) bool {
	switch c {
	case '"', '\\':
		return q.add(byte(c))
	case 'x':
		q.state = firstHex
		return q.anyByte
	}
	return false
}

// add ends a character, unless there are too many of them.
func (q *quotation) add(b byte) bool {
	if len(q.content) == q.most {
		return false
	}
	q.content = append(q.content, b)
	q.state = whole
	return true
}

func hexDigit(c rune) (byte, bool) {
	switch {
	case '0' <= c && c <= '9':
		return byte(c - '0'), true
	case 'a' <= c && c <= 'f':
		return byte(c-'a') + 10, true
	}
	return 0, false
}
