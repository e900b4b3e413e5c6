package sizes

import "synthesis/api"

// Least returns the least size of a term of each symbol of a valid language, which may be greater than MaxSize, or 0 if the symbol has no term.
func Least(l api.Language) []int {
	least := make([]int, len(l.Symbols))
	// A least term has no more levels than there are symbols, since no symbol occurs in it below itself.
	for range len(l.Symbols) {
		for _, r := range l.Rules {
			size := leastRooted(r, least)
			if known := least[r.Symbol]; size > 0 && (known == 0 || size < known) {
				least[r.Symbol] = size
			}
		}
	}
	return least
}

// leastRooted returns the least size of a term with the rule at its root, as far as the least sizes of the symbols are known, or 0.
func leastRooted(r api.Rule, least []int) int {
	size := 1
	for _, arg := range r.Args {
		if least[arg] == 0 {
			return 0
		}
		size += least[arg]
	}
	return size
}
