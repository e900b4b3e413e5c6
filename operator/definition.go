package operator

import "synthesis/api"

// definition is an operator of the catalog: its signature, and its meaning.
type definition struct {
	args   []int
	result int
	apply  meaning
}

// meaning computes the result of an operator. The arguments are valid, and have the types of the signature; the result need not be valid.
type meaning func(args []api.Value) (api.Value, api.Errno)

// define returns an operator with a meaning, a result type and the types of any number of arguments.
func define(apply meaning, result int, args ...int) definition {
	return definition{args, result, apply}
}

// one defines an operator by a function of one argument.
func one[A, R any](a kind[A], r kind[R], f func(A) (R, api.Errno)) definition {
	return define(func(args []api.Value) (api.Value, api.Errno) {
		return r.outcome(f(a.read(args[0])))
	}, r.number, a.number)
}

// two defines an operator by a function of two arguments.
func two[A, B, R any](a kind[A], b kind[B], r kind[R], f func(A, B) (R, api.Errno)) definition {
	return define(func(args []api.Value) (api.Value, api.Errno) {
		return r.outcome(f(a.read(args[0]), b.read(args[1])))
	}, r.number, a.number, b.number)
}

// three defines an operator by a function of three arguments.
func three[A, B, C, R any](a kind[A], b kind[B], c kind[C], r kind[R], f func(A, B, C) (R, api.Errno)) definition {
	return define(func(args []api.Value) (api.Value, api.Errno) {
		return r.outcome(f(a.read(args[0]), b.read(args[1]), c.read(args[2])))
	}, r.number, a.number, b.number, c.number)
}

// sure1 returns a function of one argument as one that has no error.
func sure1[A, R any](f func(A) R) func(A) (R, api.Errno) {
	return func(a A) (R, api.Errno) { return f(a), api.OK }
}

// sure2 returns a function of two arguments as one that has no error.
func sure2[A, B, R any](f func(A, B) R) func(A, B) (R, api.Errno) {
	return func(a A, b B) (R, api.Errno) { return f(a, b), api.OK }
}

// swapped2 exchanges the two arguments of a function.
func swapped2[A, B, R any](f func(A, B) (R, api.Errno)) func(B, A) (R, api.Errno) {
	return func(b B, a A) (R, api.Errno) { return f(a, b) }
}

// swapped3 exchanges the first two arguments of a function of three arguments.
func swapped3[A, B, C, R any](f func(A, B, C) (R, api.Errno)) func(B, A, C) (R, api.Errno) {
	return func(b B, a A, c C) (R, api.Errno) { return f(a, b, c) }
}

// same reports whether two arguments are equal.
func same[A comparable](a, b A) (bool, api.Errno) { return a == b, api.OK }

// choice returns a if the test is true, and otherwise b.
func choice[A any](test bool, a, b A) (A, api.Errno) {
	if test {
		return a, api.OK
	}
	return b, api.OK
}
