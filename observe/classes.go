package observe

import (
	"synthesis/api"
	"synthesis/eval"
)

// A numbering gives numbers from 0 to keys, in the order in which it meets them.
type numbering[K comparable] map[K]int

func (n numbering[K]) of(key K) int {
	number, isKnown := n[key]
	if !isKnown {
		number = len(n)
		n[key] = number
	}
	return number
}

// outcomeColumns returns, for each tuple, a number of the outcome of each term. The numbers are equal exactly if the outcomes are.
func outcomeColumns(l api.Language, list []api.Term, tuples [][]api.Value) [][]int {
	columns := make([][]int, len(tuples))
	numbers := numbering[string]{}
	for _, t := range list {
		outcomes, _ := eval.Outcomes(l, t, tuples)
		for k := range tuples {
			outcome := numbers.of(eval.Key(outcomes[k : k+1]))
			columns[k] = append(columns[k], outcome)
		}
	}
	return columns
}

// A partition divides terms into as many classes as count says; classOf has the number of the class of each term.
type partition struct {
	classOf []int
	count   int
}

// by returns the partition in which two terms are in one class if they are so in p, and have equal numbers in the column.
func (p partition) by(column []int) partition {
	numbers := numbering[[2]int]{}
	finer := make([]int, len(column))
	for i, number := range column {
		finer[i] = numbers.of([2]int{p.classOf[i], number})
	}
	return partition{finer, len(numbers)}
}

// greedy chooses columns, each time the first one that gives the most classes, until there are as many as with all columns.
func greedy(terms int, columns [][]int) []int {
	whole := partition{make([]int, terms), min(terms, 1)}
	finest := whole
	for _, column := range columns {
		finest = finest.by(column)
	}
	var chosen []int
	for p := whole; p.count < finest.count; {
		best, place := p, 0
		for k, column := range columns {
			if q := p.by(column); q.count > best.count {
				best, place = q, k
			}
		}
		p, chosen = best, append(chosen, place)
	}
	return chosen
}
