package term

import "synthesis/api"

// At returns the subterm at a path of argument numbers.
func At(t api.Term, path []int) (api.Term, api.Errno) {
	place := follow(&t, path)
	if place == nil {
		return api.Term{}, api.ErrNone
	}
	return clone(*place), api.OK
}

// Replace returns t with another subterm at a path.
func Replace(t api.Term, path []int, x api.Term) (api.Term, api.Errno) {
	if follow(&t, path) == nil {
		return api.Term{}, api.ErrNone
	}
	changed := clone(t)
	*follow(&changed, path) = clone(x)
	return changed, api.OK
}

// follow returns the place in t to which the path leads, or nil if it does not lead to a subterm.
func follow(t *api.Term, path []int) *api.Term {
	for _, arg := range path {
		if !isIndex(arg, len(t.Args)) {
			return nil
		}
		t = &t.Args[arg]
	}
	return t
}

// clone returns a copy of t that shares no memory with it.
func clone(t api.Term) api.Term {
	if len(t.Args) == 0 {
		return api.Term{Rule: t.Rule}
	}
	args := make([]api.Term, len(t.Args))
	for i, arg := range t.Args {
		args[i] = clone(arg)
	}
	return api.Term{Rule: t.Rule, Args: args}
}
