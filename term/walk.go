package term

import (
	"iter"

	"synthesis/api"
)

// preorder returns an iterator over t and all subterms of its arguments. They share their memory with t.
func preorder(t api.Term) iter.Seq[api.Term] {
	return func(yield func(api.Term) bool) { visit(t, yield) }
}

// visit calls yield for t and all subterms of its arguments until it returns false, and reports whether it did not.
func visit(t api.Term, yield func(api.Term) bool) bool {
	if !yield(t) {
		return false
	}
	for _, arg := range t.Args {
		if !visit(arg, yield) {
			return false
		}
	}
	return true
}

// listed returns a property of t and of all subterms of its arguments, in preorder.
func listed(t api.Term, property func(api.Term) int) []int {
	list := make([]int, 0, Size(t))
	for s := range preorder(t) {
		list = append(list, property(s))
	}
	return list
}
