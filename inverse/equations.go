package inverse

import (
	"synthesis/api"
	"synthesis/value"
)

// equation is factor * x = result, for an unknown integer x.
type equation struct {
	factor, result int64
}

// equationOf returns the equation of an operator on integers whose argument at is unknown, while the other one is known.
func equationOf(name string, out int64, at int, known int64) equation {
	switch {
	case name == "mul" || name == "scale":
		return equation{known, out}
	case name == "sub" && at == 0:
		return equation{1, out + known}
	case name == "sub":
		return equation{1, known - out}
	}
	return equation{1, out - known}
}

// isFree reports whether every number solves the equation.
func (q equation) isFree() bool { return q.factor == 0 && q.result == 0 }

// numbers returns the solutions, in ascending order: the least ones alone if every number is a solution. One that is out of range is no valid number.
func (q equation) numbers() []int64 {
	switch {
	case q.isFree():
		return leastNumbers()
	case q.factor == 0 || q.result%q.factor != 0:
		return nil
	}
	return []int64{q.result / q.factor}
}

func leastNumbers() []int64 {
	var least []int64
	for i := range int64(plenty) {
		least = append(least, i-api.MaxInt)
	}
	return least
}

// solutions returns candidates for the argument at of an operator that adds, subtracts or multiplies.
func solutions(name string, out api.Value, at int, known api.Value) []api.Value {
	switch {
	case out.Type == api.Int:
		return ints(equationOf(name, out.Num, at, known.Num).numbers())
	case at == 0:
		return listSolutions(name, out, known)
	case len(known.Items) != len(out.Items):
		return nil
	}
	// One number must solve the equations of all elements. The first equation that is not solved by all numbers leaves at most one.
	for i, element := range known.Items {
		q := equationOf(name, out.Items[i].Num, at, element.Num)
		if !q.isFree() {
			return ints(q.numbers())
		}
	}
	return ints(leastNumbers())
}

// listSolutions returns candidates for the list of shift or scale, if the number is known. Each element has an equation of its own.
func listSolutions(name string, out, known api.Value) []api.Value {
	var choices [][]int64
	for _, element := range out.Items {
		choices = append(choices, equationOf(name, element.Num, 0, known.Num).numbers())
	}
	var found []api.Value
	for _, l := range products(choices, plenty) {
		found = append(found, value.OfInts(l))
	}
	return found
}

func ints(numbers []int64) []api.Value {
	var values []api.Value
	for _, n := range numbers {
		values = append(values, value.OfInt(n))
	}
	return values
}
