package pattern

// A reader reads patterns from the front of a text. It never passes a byte with which no pattern can go on,
// so that after a failure, which its methods report by false, the offset at is the fault.
type reader struct {
	text string
	at   int
}

func (r *reader) atEnd() bool { return r.at == len(r.text) }

// peek returns the next byte, or 0 at the end: no byte of a pattern is 0.
func (r *reader) peek() byte {
	if r.atEnd() {
		return 0
	}
	return r.text[r.at]
}

// take reads the byte b, if it comes next.
func (r *reader) take(b byte) bool {
	if r.peek() != b {
		return false
	}
	r.at++
	return true
}

func (r *reader) pattern() (Tree, bool) {
	another := func() bool { return r.take('|') }
	return r.several(Alt, r.cat, another)
}

func (r *reader) cat() (Tree, bool) {
	another := func() bool { return beginsAtom(r.peek()) }
	return r.several(Cat, r.rep, another)
}

// several reads one tree, and further ones as long as there is another one. A single tree is not made a Sub.
func (r *reader) several(kind int, one func() (Tree, bool), another func() bool) (Tree, bool) {
	var subs []Tree
	for len(subs) == 0 || another() {
		t, ok := one()
		if !ok {
			return Tree{}, false
		}
		subs = append(subs, t)
	}
	if len(subs) == 1 {
		return subs[0], true
	}
	return Tree{Kind: kind, Subs: subs}, true
}

func (r *reader) rep() (Tree, bool) {
	t, ok := r.atom()
	if !ok || !r.take('*') {
		return t, ok
	}
	return Tree{Kind: Rep, Subs: []Tree{t}}, true
}

func (r *reader) atom() (Tree, bool) {
	switch c := r.peek(); {
	case c == '(':
		return r.group()
	case c == '[':
		return r.brackets()
	case c == '.':
		r.at++
		return classOf(alphabet), true
	case c == '\\':
		r.at++
		if !isSpecial(r.peek()) {
			return Tree{}, false
		}
		fallthrough
	case isPlain(c):
		return r.single(), true
	}
	return Tree{}, false
}

func (r *reader) single() Tree {
	var set byteSet
	set.add(r.peek())
	r.at++
	return classOf(set)
}

// group reads what begins with a parenthesis.
func (r *reader) group() (Tree, bool) {
	r.at++
	if r.take(')') {
		return Tree{Kind: Empty}, true
	}
	t, ok := r.pattern()
	if !ok || !r.take(')') {
		return Tree{}, false
	}
	return t, true
}

// brackets reads what begins with a bracket.
func (r *reader) brackets() (Tree, bool) {
	r.at++
	if r.take(']') {
		return Tree{Kind: Nothing}, true
	}
	negated := r.take('^')
	var set byteSet
	for set.isEmpty() || !r.take(']') {
		if !r.item(&set) {
			return Tree{}, false
		}
	}
	if negated {
		set = alphabet.without(set)
	}
	return classOf(set), true
}

// item reads an item, and adds its bytes to set.
func (r *reader) item(set *byteSet) bool {
	first, ok := r.member(firstByte)
	if !ok {
		return false
	}
	last := first
	if r.take('-') {
		last, ok = r.member(first)
	}
	for b := first; b <= last; b++ {
		set.add(b)
	}
	return ok
}

// member reads a member that is not less than least.
func (r *reader) member(least byte) (byte, bool) {
	b := r.peek()
	if b == '\\' {
		// No byte that could follow is greater than this one.
		if least > '^' {
			return 0, false
		}
		r.at++
		b = r.peek()
		if !isSpecialMember(b) {
			return 0, false
		}
	} else if isSpecialMember(b) {
		return 0, false
	}
	if b < least || !inAlphabet(b) {
		return 0, false
	}
	r.at++
	return b, true
}
