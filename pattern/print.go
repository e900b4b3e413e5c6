package pattern

import (
	"strings"

	"synthesis/api"
)

// maxLevels is the nesting up to which the document's promises hold. A tree whose Subs contain the tree itself exceeds it.
const maxLevels = 1 << 16

// Print returns the canonical text of a tree.
func Print(t Tree) (string, api.Errno) {
	if !isProper(t, maxLevels) {
		return "", api.ErrForm
	}
	var b strings.Builder
	writeTree(&b, t)
	return withinSize(b.String())
}

// withinSize returns p, unless it is too long for a pattern.
func withinSize(p string) (string, api.Errno) {
	if len(p) > api.MaxPattern {
		return "", api.ErrSize
	}
	return p, api.OK
}

// isProper reports whether a tree, with Subs up to a number of levels below it, is proper.
func isProper(t Tree, levels int) bool {
	set := byteSet(t.Set)
	if set.isEmpty() == (t.Kind == Class) || !set.without(alphabet).isEmpty() {
		return false
	}
	if !mayHave(t.Kind, len(t.Subs)) || len(t.Subs) > 0 && levels == 0 {
		return false
	}
	for _, sub := range t.Subs {
		if !isProper(sub, levels-1) {
			return false
		}
	}
	return true
}

// mayHave reports whether a tree of this kind may have so many Subs.
func mayHave(kind, subs int) bool {
	switch kind {
	case Nothing, Empty, Class:
		return subs == 0
	case Rep:
		return subs == 1
	case Cat, Alt:
		return subs >= 2
	}
	return false
}

// writeTree writes the text of a proper tree, or as much of it as shows that it is too long.
func writeTree(b *strings.Builder, t Tree) {
	switch t.Kind {
	case Nothing:
		b.WriteString("[]")
	case Empty:
		b.WriteString("()")
	case Class:
		writeClass(b, t.Set)
	case Rep:
		writeSub(b, t.Subs[0], Rep)
		b.WriteByte('*')
	case Cat, Alt:
		for i, sub := range t.Subs {
			if b.Len() > api.MaxPattern {
				return
			}
			if i > 0 && t.Kind == Alt {
				b.WriteByte('|')
			}
			writeSub(b, sub, t.Kind)
		}
	}
}

// writeSub writes the text of a Sub of a tree of the kind above.
func writeSub(b *strings.Builder, sub Tree, above int) {
	if b.Len() > api.MaxPattern {
		return
	}
	if sub.Kind == Alt || sub.Kind == Cat && above != Alt || sub.Kind == Rep && above == Rep {
		b.WriteByte('(')
		writeTree(b, sub)
		b.WriteByte(')')
		return
	}
	writeTree(b, sub)
}

func writeClass(b *strings.Builder, set byteSet) {
	runs := set.runs()
	switch {
	case set == alphabet:
		b.WriteByte('.')
	case len(runs) == 1 && runs[0][0] == runs[0][1]:
		writeByte(b, runs[0][0])
	default:
		b.WriteByte('[')
		for _, run := range runs {
			writeRun(b, run[0], run[1])
		}
		b.WriteByte(']')
	}
}

// writeByte writes the pattern of one byte.
func writeByte(b *strings.Builder, c byte) {
	if isSpecial(c) {
		b.WriteByte('\\')
	}
	b.WriteByte(c)
}

// writeRun writes the bytes from first to last, for a place between brackets.
func writeRun(b *strings.Builder, first, last byte) {
	writeMember(b, first)
	if last-first > 1 {
		b.WriteByte('-')
	}
	if last > first {
		writeMember(b, last)
	}
}

func writeMember(b *strings.Builder, c byte) {
	if isSpecialMember(c) {
		b.WriteByte('\\')
	}
	b.WriteByte(c)
}
