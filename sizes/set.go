package sizes

import (
	"math/bits"

	"synthesis/api"
)

// Set is a set of sizes from 0 to MaxSize: a size is in it if the bit with this number is set.
type Set uint32

const all Set = 1<<(api.MaxSize+1) - 1

// Has reports whether a size, which is not negative, is in the set.
func (s Set) Has(size int) bool { return s>>size&1 == 1 }

// With returns the set with a size from 0 to MaxSize.
func (s Set) With(size int) Set { return s | 1<<size }

// Plus returns the sums, up to MaxSize, of a size of s and a size of t.
func (s Set) Plus(t Set) Set {
	var sums Set
	// The last bit is removed in every round.
	for ; s != 0; s &= s - 1 {
		sums |= t << bits.TrailingZeros32(uint32(s))
	}
	return sums & all
}
