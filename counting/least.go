package counting

import (
	"synthesis/api"
	"synthesis/grammar"
	"synthesis/sizes"
)

// Least returns the least size of a term of each symbol, or 0.
func Least(l api.Language) ([]int, api.Errno) {
	if e := grammar.Check(l); e != api.OK {
		return nil, e
	}
	return sizes.Least(l), api.OK
}
