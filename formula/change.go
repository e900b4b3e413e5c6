package formula

import (
	"slices"

	"synthesis/api"
)

// The functions of this file are for proper formulas, and their results share no memory with these.

// negated returns the negation of f, in which FormNot stands before atoms only.
func negated(f api.Formula) api.Formula {
	switch f.Kind {
	case api.FormTrue:
		return api.Formula{Kind: api.FormFalse}
	case api.FormFalse:
		return api.Formula{Kind: api.FormTrue}
	case api.FormNot:
		return kept(f.Subs[0])
	case api.FormAnd:
		return connected(api.FormOr, f.Subs, negated)
	case api.FormOr:
		return connected(api.FormAnd, f.Subs, negated)
	}
	return api.Formula{Kind: api.FormNot, Subs: []api.Formula{clone(f)}}
}

// kept returns a formula that holds exactly if f does, in which FormNot stands before atoms only.
func kept(f api.Formula) api.Formula {
	switch f.Kind {
	case api.FormNot:
		return negated(f.Subs[0])
	case api.FormAnd, api.FormOr:
		return connected(f.Kind, f.Subs, kept)
	}
	return clone(f)
}

// connected returns the connective of a kind with what change makes of the formulas.
func connected(kind int, subs []api.Formula, change func(api.Formula) api.Formula) api.Formula {
	f := api.Formula{Kind: kind}
	for _, sub := range subs {
		f.Subs = append(f.Subs, change(sub))
	}
	return f
}

// reduced returns Reduce of f.
func reduced(f api.Formula) api.Formula {
	switch f.Kind {
	case api.FormNot:
		return reducedNot(reduced(f.Subs[0]))
	case api.FormAnd:
		return reducedList(f, api.FormFalse, api.FormTrue)
	case api.FormOr:
		return reducedList(f, api.FormTrue, api.FormFalse)
	}
	return clone(f)
}

// reducedNot returns Reduce of FormNot of a formula that is reduced.
func reducedNot(f api.Formula) api.Formula {
	switch f.Kind {
	case api.FormTrue:
		return api.Formula{Kind: api.FormFalse}
	case api.FormFalse:
		return api.Formula{Kind: api.FormTrue}
	case api.FormNot:
		return f.Subs[0]
	}
	return api.Formula{Kind: api.FormNot, Subs: []api.Formula{f}}
}

// reducedList returns Reduce of FormAnd or FormOr, which is decided by a part of the kind deciding, and not changed by one of the kind neutral.
func reducedList(f api.Formula, deciding, neutral int) api.Formula {
	var list []api.Formula
	isKnown := map[string]bool{}
	for _, sub := range f.Subs {
		for _, part := range parts(f.Kind, reduced(sub)) {
			if part.Kind == deciding {
				return api.Formula{Kind: deciding}
			}
			// Proper formulas are equal exactly if their texts are.
			text := formulaText(part)
			if part.Kind != neutral && !isKnown[text] {
				isKnown[text] = true
				list = append(list, part)
			}
		}
	}
	switch len(list) {
	case 0:
		return api.Formula{Kind: neutral}
	case 1:
		return list[0]
	}
	return api.Formula{Kind: f.Kind, Subs: list}
}

// parts returns what stands for f in a list of the formulas below a connective of the kind.
func parts(kind int, f api.Formula) []api.Formula {
	if f.Kind == kind {
		return f.Subs
	}
	return []api.Formula{f}
}

// clone returns a copy of an atom, or of FormTrue or FormFalse.
func clone(f api.Formula) api.Formula {
	return api.Formula{Kind: f.Kind, Left: cloneOperand(f.Left), Right: cloneOperand(f.Right)}
}

func cloneOperand(x api.Operand) api.Operand {
	x.Const = cloneValue(x.Const)
	x.Subs = slices.Clone(x.Subs)
	for i, sub := range x.Subs {
		x.Subs[i] = cloneOperand(sub)
	}
	return x
}

func cloneValue(v api.Value) api.Value {
	v.Items = slices.Clone(v.Items)
	for i, item := range v.Items {
		v.Items[i] = cloneValue(item)
	}
	return v
}
