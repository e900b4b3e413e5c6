package bottomup

import (
	"iter"
	"slices"

	"synthesis/api"
	"synthesis/eval"
	"synthesis/states"
	"synthesis/term"
)

// A class is the terms of a symbol that have the same outcomes. The first of them is its representative.
type class struct {
	first    api.Term
	outcomes []api.Outcome
}

// An identity is what tells a class from all others: its symbol, and the key of its outcomes.
type identity struct {
	symbol int
	key    string
}

// A growingBank has the classes whose representatives have at most a size. Every argument of a representative is one, too:
// with another term of its class in this place, the whole term would not be the first one of its own class.
type growingBank struct {
	tables
	known map[identity]*class
	// classes has the classes of each symbol by the sizes of their representatives.
	classes [][api.MaxSize + 1][]*class
	options int64
}

// checkAndGrow returns what grow returns, unless the language, the tuples or the bound have an error.
func checkAndGrow(l api.Language, tuples [][]api.Value, most int) (*growingBank, api.Errno) {
	if e := states.Check(l, tuples, most); e != api.OK {
		return nil, e
	}
	return grow(l, tuples, most)
}

// grow returns the bank of all classes up to a size, or ErrLimit if the class graph is not within the limits.
func grow(l api.Language, tuples [][]api.Value, most int) (*growingBank, api.Errno) {
	g := &growingBank{
		tables:  tables{l, tuples},
		known:   map[identity]*class{},
		classes: make([][api.MaxSize + 1][]*class, len(l.Symbols)),
	}
	for size := 1; size <= most; size++ {
		if !g.growTo(size) {
			return nil, api.ErrLimit
		}
	}
	return g, api.OK
}

// growTo adds the classes whose representatives have a size, and reports whether the class graph is within the limits. The smaller ones must be there.
func (g *growingBank) growTo(size int) bool {
	// If there are too many options, none of them needs to be evaluated.
	for _, r := range g.language.Rules {
		g.options += g.choices(r.Args, size-1)
	}
	if g.options > api.MaxOptions {
		return false
	}
	for rule, r := range g.language.Rules {
		for args := range g.arguments(r.Args, size-1) {
			g.add(r.Symbol, size, rooted(rule, args), g.outcomes(rule, args))
			if len(g.known) > api.MaxNodes {
				return false
			}
		}
	}
	return true
}

// add adds a term of a size to its class.
func (g *growingBank) add(symbol, size int, t api.Term, outcomes []api.Outcome) {
	id := identity{symbol, eval.Key(outcomes)}
	c, isKnown := g.known[id]
	if !isKnown {
		c = &class{t, outcomes}
		g.known[id] = c
		g.classes[symbol][size] = append(g.classes[symbol][size], c)
	}
	// The terms of one size are not added in the order of terms.
	if term.Compare(t, c.first) < 0 {
		c.first = t
	}
}

// choices returns the number of lists of classes, one of each symbol, whose representatives have sizes that add up to total.
func (g *growingBank) choices(symbols []int, total int) int64 {
	if len(symbols) == 0 && total == 0 {
		return 1
	}
	if len(symbols) == 0 {
		return 0
	}
	var count int64
	for size := 1; size <= total; size++ {
		if found := len(g.classes[symbols[0]][size]); found > 0 {
			count += int64(found) * g.choices(symbols[1:], total-size)
		}
	}
	return count
}

// arguments yields the lists of classes that choices counts. What it yields is valid until it goes on.
func (g *growingBank) arguments(symbols []int, total int) iter.Seq[[]*class] {
	return func(yield func([]*class) bool) {
		g.choose(nil, symbols, total, yield)
	}
}

// choose yields the lists that begin with the chosen classes, until yield returns false, and reports whether it did not.
func (g *growingBank) choose(chosen []*class, symbols []int, total int, yield func([]*class) bool) bool {
	if len(symbols) == 0 {
		return total != 0 || yield(chosen)
	}
	first, rest := symbols[0], symbols[1:]
	for size := 1; size <= total; size++ {
		// Where there is no choice for the rest, many choices of the first class would be in vain.
		if g.choices(rest, total-size) == 0 {
			continue
		}
		for _, c := range g.classes[first][size] {
			if !g.choose(append(chosen, c), rest, total-size, yield) {
				return false
			}
		}
	}
	return true
}

// sorted returns the classes of a symbol, in the order of their representatives.
func (g *growingBank) sorted(symbol int) []*class {
	all := slices.Concat(g.classes[symbol][:]...)
	slices.SortFunc(all, func(a, b *class) int { return term.Compare(a.first, b.first) })
	return all
}

// rooted returns the term with a rule at its root, applied to the representatives of classes.
func rooted(rule int, args []*class) api.Term {
	t := api.Term{Rule: rule}
	for _, arg := range args {
		t.Args = append(t.Args, arg.first)
	}
	return t
}

// copied returns a copy of a term. The terms of a bank share their arguments, which results must not do.
func copied(t api.Term) api.Term {
	// The empty path leads to the term itself.
	whole, _ := term.At(t, nil)
	return whole
}
