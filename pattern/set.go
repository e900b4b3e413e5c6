package pattern

import "strings"

const (
	firstByte = ' '
	lastByte  = '~'

	// special bytes stand for themselves only after a backslash.
	special = `()[].*|\`
	// specialMembers are the bytes for which the same holds between brackets.
	specialMembers = `]\^-`
)

// alphabet is the set of the bytes from firstByte to lastByte.
var alphabet = byteSet{0xffffffff00000000, 0x7fffffffffffffff, 0, 0}

// A byteSet is a set of bytes, as in a Tree.
type byteSet [4]uint64

func (s *byteSet) add(b byte) { s[b/64] |= 1 << (b % 64) }

func (s byteSet) has(b byte) bool { return s[b/64]>>(b%64)&1 == 1 }

func (s byteSet) isEmpty() bool { return s == byteSet{} }

// without returns the bytes of s that are not in t.
func (s byteSet) without(t byteSet) byteSet {
	for i := range s {
		s[i] &^= t[i]
	}
	return s
}

// runs returns the first and the last byte of each maximal run of successive bytes of the alphabet, ascending.
func (s byteSet) runs() [][2]byte {
	var found [][2]byte
	for b := byte(firstByte); b <= lastByte; b++ {
		switch n := len(found); {
		case !s.has(b):
		case n > 0 && found[n-1][1] == b-1:
			found[n-1][1] = b
		default:
			found = append(found, [2]byte{b, b})
		}
	}
	return found
}

func inAlphabet(b byte) bool { return alphabet.has(b) }

func isPlain(b byte) bool { return inAlphabet(b) && !isSpecial(b) }

// beginsAtom reports whether an atom can begin with b.
func beginsAtom(b byte) bool { return isPlain(b) || strings.IndexByte(`([.\`, b) >= 0 }

func isSpecial(b byte) bool { return strings.IndexByte(special, b) >= 0 }

func isSpecialMember(b byte) bool { return strings.IndexByte(specialMembers, b) >= 0 }

// classOf returns the tree that matches each text of one byte of s, or no text if there is no such byte.
func classOf(s byteSet) Tree {
	if s.isEmpty() {
		return Tree{Kind: Nothing}
	}
	return Tree{Kind: Class, Set: s}
}
