package counting

import "synthesis/api"

// sizeSet is a set of sizes from 0 to MaxSize: a size is in it if the bit with this number is set.
type sizeSet uint32

const allSizes sizeSet = 1<<(api.MaxSize+1) - 1

func (s sizeSet) has(size int) bool { return s>>size&1 == 1 }

func (s sizeSet) with(size int) sizeSet { return s | 1<<size }

// plus returns the sums, up to MaxSize, of a size of s and a size of t.
func (s sizeSet) plus(t sizeSet) sizeSet {
	var sums sizeSet
	for size := range api.MaxSize + 1 {
		if s.has(size) {
			sums |= t << size
		}
	}
	return sums & allSizes
}
