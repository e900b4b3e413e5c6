package bitvec

import (
	"math"
	"strings"
	"testing"
)

// bit returns the bit number i of a, as the chapter defines it.
func bit(a, i int) int {
	for range i {
		a /= 2
	}
	return a % 2
}

// ofBits returns the bit vector whose bit number i is f(i).
func ofBits(f func(i int) int) int {
	a := 0
	for i := 7; i >= 0; i-- {
		a = 2*a + f(i)
	}
	return a
}

// remainder returns n modulo 256, from 0 to 255.
func remainder(n int) int { return (n%256 + 256) % 256 }

// floor returns a divided by 2^n, rounded down.
func floor(a, n int) int {
	for range n {
		if a < 0 {
			a--
		}
		a /= 2
	}
	return a
}

// strangers are numbers that are no bit vectors.
var strangers = []int{-1, 256, -255, -256, 257, 511, 512, 1 << 32, -1 << 32, math.MinInt, math.MaxInt}

var distances = []int{math.MinInt, -256, -9, -8, -1, 0, 1, 2, 3, 4, 5, 6, 7, 8, 9, 31, 32, 63, 64, 65, 256, 257, math.MaxInt}

type operationCase struct {
	name string
	f    func(a, b int) int
	want func(a, b int) int
}

func binaryCases() []operationCase {
	return []operationCase{
		{"band", And, func(a, b int) int { return ofBits(func(i int) int { return bit(a, i) * bit(b, i) }) }},
		{"bor", Or, func(a, b int) int { return ofBits(func(i int) int { return max(bit(a, i), bit(b, i)) }) }},
		{"bxor", Xor, func(a, b int) int { return ofBits(func(i int) int { return (bit(a, i) + bit(b, i)) % 2 }) }},
		{"badd", Add, func(a, b int) int { return remainder(a + b) }},
		{"bsub", Sub, func(a, b int) int { return remainder(a - b) }},
		{"bmul", Mul, func(a, b int) int { return remainder(a * b) }},
	}
}

func shiftCases() []operationCase {
	distance := func(n int) int { return min(max(n, 0), 8) }
	return []operationCase{
		{"bleft", Left, func(a, n int) int { return remainder(a << distance(n)) }},
		{"bright", Right, func(a, n int) int { return floor(a, distance(n)) }},
		{"barith", Arith, func(a, n int) int {
			if a >= 128 {
				a -= 256
			}
			return remainder(floor(a, distance(n)))
		}},
	}
}

// P3.1
func TestValid(t *testing.T) {
	for a := range 256 {
		if !Valid(a) {
			t.Errorf("Valid(%d) is false", a)
		}
	}
	for _, a := range strangers {
		if Valid(a) {
			t.Errorf("Valid(%d) is true", a)
		}
	}
}

// P3.1
func TestOperations(t *testing.T) {
	for _, x := range binaryCases() {
		for a := range 256 {
			for b := range 256 {
				if got, want := x.f(a, b), x.want(a, b); got != want {
					t.Fatalf("%s of %d and %d is %d, not %d", x.name, a, b, got, want)
				}
			}
		}
	}
	for a := range 256 {
		if Not(a) != 255-a {
			t.Errorf("Not(%d) is %d", a, Not(a))
		}
	}
}

// P3.1: the operands that are no bit vectors.
func TestStrangersGiveZero(t *testing.T) {
	for _, s := range strangers {
		for _, a := range []int{0, 1, 128, 255} {
			for _, x := range binaryCases() {
				if x.f(s, a) != 0 || x.f(a, s) != 0 || x.f(s, s) != 0 {
					t.Errorf("%s of %d and %d: %d, %d, %d", x.name, s, a, x.f(s, a), x.f(a, s), x.f(s, s))
				}
			}
		}
		for _, n := range distances {
			for _, x := range shiftCases() {
				if x.f(s, n) != 0 {
					t.Errorf("%s of %d by %d is %d", x.name, s, n, x.f(s, n))
				}
			}
		}
		if Not(s) != 0 || Ones(s) != 0 || Text(s) != "" {
			t.Errorf("%d: Not %d, Ones %d, Text %q", s, Not(s), Ones(s), Text(s))
		}
	}
}

// P3.2
func TestShifts(t *testing.T) {
	for _, x := range shiftCases() {
		for a := range 256 {
			for _, n := range distances {
				if got, want := x.f(a, n), x.want(a, n); got != want {
					t.Fatalf("%s of %d by %d is %d, not %d", x.name, a, n, got, want)
				}
			}
		}
	}
	for _, x := range []struct{ got, want int }{
		{Left(129, 1), 2}, {Left(1, 7), 128}, {Left(255, 8), 0}, {Left(5, math.MinInt), 5},
		{Right(129, 1), 64}, {Right(255, 7), 1}, {Right(255, 8), 0}, {Right(5, -1), 5},
		{Arith(128, 1), 192}, {Arith(128, 7), 255}, {Arith(128, 9), 255}, {Arith(127, 7), 0}, {Arith(200, -1), 200},
	} {
		if x.got != x.want {
			t.Errorf("%d, not %d", x.got, x.want)
		}
	}
}

// P3.3 and P3.5
func TestOnesAndText(t *testing.T) {
	for a := range 256 {
		digits, ones := "", 0
		for i := range 8 {
			digits = string("01"[bit(a, i)]) + digits
			ones += bit(a, i)
		}
		if Text(a) != digits {
			t.Errorf("Text(%d) is %q, not %q", a, Text(a), digits)
		}
		if Ones(a) != ones || Ones(a) != strings.Count(Text(a), "1") {
			t.Errorf("Ones(%d) is %d, not %d", a, Ones(a), ones)
		}
	}
	if Text(5) != "00000101" || Text(0) != "00000000" || Text(128) != "10000000" {
		t.Error(Text(5), Text(0), Text(128))
	}
}

// P3.5: the laws of one and of two bit vectors.
func TestLawsOfPairs(t *testing.T) {
	for a := range 256 {
		if Add(a, 0) != a || Mul(a, 1) != a || Add(a, Sub(0, a)) != 0 || And(a, 255) != a || Or(a, 0) != a {
			t.Errorf("the neutral elements for %d", a)
		}
		if And(a, Not(a)) != 0 || Or(a, Not(a)) != 255 || Not(Not(a)) != a {
			t.Errorf("the complement of %d", a)
		}
		if Left(a, 1) != Add(a, a) || Left(a, 1) != Mul(a, 2) {
			t.Errorf("Left(%d, 1) is %d", a, Left(a, 1))
		}
		for b := range 256 {
			if Add(a, b) != Add(b, a) || Mul(a, b) != Mul(b, a) || And(a, b) != And(b, a) || Or(a, b) != Or(b, a) {
				t.Fatalf("%d and %d do not commute", a, b)
			}
			if Sub(Add(a, b), b) != a || Xor(Xor(a, b), b) != a {
				t.Fatalf("%d and %d: Sub or Xor does not undo", a, b)
			}
			if And(a, Or(a, b)) != a || Or(a, And(a, b)) != a || Not(And(a, b)) != Or(Not(a), Not(b)) {
				t.Fatalf("%d and %d: no Boolean algebra", a, b)
			}
		}
	}
}

// P3.5: the laws of three bit vectors.
func TestLawsOfTriples(t *testing.T) {
	for a := 0; a < 256; a += 5 {
		for b := 0; b < 256; b += 3 {
			for c := 0; c < 256; c += 17 {
				if Add(Add(a, b), c) != Add(a, Add(b, c)) || Mul(Mul(a, b), c) != Mul(a, Mul(b, c)) {
					t.Fatalf("%d, %d, %d: Add or Mul is not associative", a, b, c)
				}
				if Mul(a, Add(b, c)) != Add(Mul(a, b), Mul(a, c)) {
					t.Fatalf("%d, %d, %d: Mul does not distribute", a, b, c)
				}
				if And(a, Or(b, c)) != Or(And(a, b), And(a, c)) || Or(a, And(b, c)) != And(Or(a, b), Or(a, c)) {
					t.Fatalf("%d, %d, %d: And or Or does not distribute", a, b, c)
				}
			}
		}
	}
}
