package bottomup_test

import (
	"slices"
	"strconv"
	"strings"

	"synthesis/api"
	"synthesis/eval"
	"synthesis/notation"
	"synthesis/statetest"
	"synthesis/term"
	"synthesis/value"
)

// A family is a language, tuples that fit it, and a bound up to which there are not too many terms.
type family struct {
	l      api.Language
	tuples [][]api.Value
	most   int
}

func families() []family {
	var list []family
	for _, x := range statetest.Families() {
		list = append(list, family{x.Language, x.Tuples, x.Most})
	}
	return list
}

// leaf returns the term of a rule without arguments.
func leaf(rule int) api.Term { return api.Term{Rule: rule} }

// write returns a text of a term.
func write(t api.Term) string {
	var b strings.Builder
	b.WriteString(strconv.Itoa(t.Rule))
	for _, arg := range t.Args {
		b.WriteString("(" + write(arg) + ")")
	}
	return b.String()
}

func writeAll(list []api.Term) string {
	var b strings.Builder
	for _, t := range list {
		b.WriteString(write(t) + "\n")
	}
	return b.String()
}

// printed returns the texts of terms of a symbol.
func printed(l api.Language, list []api.Term) []string {
	var texts []string
	for _, t := range list {
		text, e := notation.Print(l, t)
		if e != api.OK {
			panic(write(t))
		}
		texts = append(texts, text)
	}
	return texts
}

func isZero(t api.Term) bool { return t.Rule == 0 && len(t.Args) == 0 }

// A classGraph has what the definitions say of the classes: the representatives of each symbol in the order of terms,
// the place of the representative of each list of outcomes, and the numbers of states and options.
type classGraph struct {
	first           [][]api.Term
	places          []map[string]int
	states, options int
}

// graphOf returns the class graph by its definition, from all terms.
func graphOf(l api.Language, tuples [][]api.Value, most int) classGraph {
	var g classGraph
	o := statetest.OracleOf(l)
	for symbol := range l.Symbols {
		var first []api.Term
		places := map[string]int{}
		for _, t := range o.UpTo(symbol, most) {
			key := statetest.Key(l, t, tuples)
			if _, isKnown := places[key]; !isKnown {
				places[key] = len(first)
				first = append(first, t)
			}
		}
		g.first = append(g.first, first)
		g.places = append(g.places, places)
		g.states += len(first)
	}
	for _, r := range l.Rules {
		g.options += g.optionsOf(r.Args, most-1)
	}
	return g
}

// optionsOf returns the number of lists of classes, one of each symbol, whose representatives have sizes that add up to at most the room.
func (g classGraph) optionsOf(symbols []int, room int) int {
	if len(symbols) == 0 {
		return 1
	}
	n := 0
	for _, t := range g.first[symbols[0]] {
		if size := term.Size(t); size <= room {
			n += g.optionsOf(symbols[1:], room-size)
		}
	}
	return n
}

func (g classGraph) isWithinLimits() bool {
	return g.states <= api.MaxNodes && g.options <= api.MaxOptions
}

// rounds returns the numbers of representatives of each size.
func (g classGraph) rounds(most int) []int {
	list := make([]int, most)
	for _, first := range g.first {
		for _, t := range first {
			list[term.Size(t)-1]++
		}
	}
	return list
}

// reached returns the outcomes of the terms of the start symbol on a tuple, in the order of the first terms that have them.
func reached(l api.Language, tuple []api.Value, most int) []api.Outcome {
	var list []api.Outcome
	for _, t := range statetest.OracleOf(l).UpTo(0, most) {
		v, e := eval.Run(l, t, tuple)
		isKnown := func(x api.Outcome) bool { return x.Errno == e && value.Equal(x.Value, v) }
		if !slices.ContainsFunc(list, isKnown) {
			list = append(list, api.Outcome{Value: v, Errno: e})
		}
	}
	return list
}

func equalOutcomes(a, b []api.Outcome) bool {
	return slices.EqualFunc(a, b, func(x, y api.Outcome) bool {
		return x.Errno == y.Errno && value.Equal(x.Value, y.Value)
	})
}
