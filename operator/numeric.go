package operator

import "synthesis/bitvec"

// ofLogic returns the definition of an operator of the family logic.
func ofLogic(name string) definition {
	b := boolKind()
	switch name {
	case "and":
		return two(b, b, b, sure2(func(x, y bool) bool { return x && y }))
	case "or":
		return two(b, b, b, sure2(func(x, y bool) bool { return x || y }))
	case "not":
		return one(b, b, sure1(func(x bool) bool { return !x }))
	case "ifint":
		return three(b, numberKind(), numberKind(), numberKind(), choice)
	case "iftext":
		return three(b, textKind(), textKind(), textKind(), choice)
	case "ifbits":
		return three(b, bitsKind(), bitsKind(), bitsKind(), choice)
	}
	return definition{}
}

// ofNumbers returns the definition of an operator of the family numbers. The product of two valid numbers does not overflow.
func ofNumbers(name string) definition {
	n := numberKind()
	switch name {
	case "add":
		return two(n, n, n, sure2(func(x, y int64) int64 { return x + y }))
	case "sub":
		return two(n, n, n, sure2(func(x, y int64) int64 { return x - y }))
	case "mul":
		return two(n, n, n, sure2(func(x, y int64) int64 { return x * y }))
	case "neg":
		return one(n, n, sure1(func(x int64) int64 { return -x }))
	case "min":
		return two(n, n, n, sure2(func(x, y int64) int64 { return min(x, y) }))
	case "max":
		return two(n, n, n, sure2(func(x, y int64) int64 { return max(x, y) }))
	case "eqint":
		return two(n, n, boolKind(), same)
	case "less":
		return two(n, n, boolKind(), sure2(func(x, y int64) bool { return x < y }))
	}
	return definition{}
}

// ofBits returns the definition of an operator of the family bits.
func ofBits(name string) definition {
	v, distance := bitsKind(), indexKind()
	switch name {
	case "band":
		return two(v, v, v, sure2(bitvec.And))
	case "bor":
		return two(v, v, v, sure2(bitvec.Or))
	case "bxor":
		return two(v, v, v, sure2(bitvec.Xor))
	case "bnot":
		return one(v, v, sure1(bitvec.Not))
	case "badd":
		return two(v, v, v, sure2(bitvec.Add))
	case "bsub":
		return two(v, v, v, sure2(bitvec.Sub))
	case "bmul":
		return two(v, v, v, sure2(bitvec.Mul))
	case "bleft":
		return two(v, distance, v, sure2(bitvec.Left))
	case "bright":
		return two(v, distance, v, sure2(bitvec.Right))
	case "barith":
		return two(v, distance, v, sure2(bitvec.Arith))
	case "ones":
		return one(v, indexKind(), sure1(bitvec.Ones))
	case "eqbits":
		return two(v, v, boolKind(), same)
	}
	return definition{}
}
