package bitvec

import "synthesis/api"

// Solve returns all x for which the operation with x and the known operand gives the result.
func Solve(op string, result, known int) []int {
	apply, knownIsBits := operation(op)
	if apply == nil || !Valid(result) || knownIsBits && !Valid(known) {
		return nil
	}
	var solutions []int
	for x := range api.MaxBits + 1 {
		if apply(x, known) == result {
			solutions = append(solutions, x)
		}
	}
	return solutions
}

// operation returns the function of an operator, and whether its second operand must be a bit vector;
// nil for other names.
func operation(op string) (apply func(x, known int) int, knownIsBits bool) {
	switch op {
	case "band":
		return And, true
	case "bor":
		return Or, true
	case "bxor":
		return Xor, true
	case "badd":
		return Add, true
	case "bsub":
		return Sub, true
	case "bmul":
		return Mul, true
	case "bnot":
		return func(x, _ int) int { return Not(x) }, false
	case "bleft":
		return Left, false
	case "bright":
		return Right, false
	case "barith":
		return Arith, false
	}
	return nil, false
}
