package bottomup_test

import (
	"slices"
	"testing"

	"synthesis/api"
	"synthesis/bottomup"
	"synthesis/grammar"
	"synthesis/statetest"
	"synthesis/value"
)

// cells returns the addresses of all elements of slices behind terms, up to their capacities.
func cells(list []api.Term) []any {
	var found []any
	all := list[:cap(list)]
	for i := range all {
		found = append(append(found, &all[i]), cells(all[i].Args)...)
	}
	return found
}

// itemCells returns the addresses of all elements of lists behind values.
func itemCells(list []api.Value) []any {
	var found []any
	all := list[:cap(list)]
	for i := range all {
		found = append(append(found, &all[i]), itemCells(all[i].Items)...)
	}
	return found
}

// values returns the values of outcomes.
func values(list []api.Outcome) []api.Value {
	var all []api.Value
	for _, o := range list {
		all = append(all, o.Value)
	}
	return all
}

// DOC.md, rule 5: results share no memory with arguments or with each other, and arguments stay as they are.
func TestMemory(t *testing.T) {
	isUsed := map[any]bool{}
	check := func(name string, found []any) {
		t.Helper()
		for _, cell := range found {
			if isUsed[cell] {
				t.Fatalf("the result of %s shares memory", name)
			}
			isUsed[cell] = true
		}
	}
	for n, x := range families() {
		for _, tuple := range x.tuples {
			if len(tuple) > 0 && !isUsed[&tuple[0]] {
				check("no function", itemCells(tuple))
			}
		}
		for _, r := range x.l.Rules {
			check("no function", itemCells(r.Const.Items))
		}
		for range 2 {
			b, _ := bottomup.Build(x.l, x.tuples, x.most)
			for _, list := range b.Terms {
				check("Build", cells(list))
			}
			o, _ := bottomup.Reach(x.l, x.tuples, x.most)
			for _, v := range values(o) {
				check("Reach", itemCells(v.Items))
			}
			if list, isDefined := examplesOf(x.l, lastOf(b), x.tuples); isDefined && len(b.Terms[0]) > 0 {
				y, e := bottomup.Find(x.l, list, x.most)
				check("Find", cells(y.Args))
				if e != api.OK {
					t.Fatal(e)
				}
			}
			bottomup.Rounds(x.l, x.tuples, x.most)
		}
		same := families()[n]
		areEqual := func(a, b []api.Value) bool { return slices.EqualFunc(a, b, value.Equal) }
		if !grammar.Same(x.l, same.l) || !slices.EqualFunc(x.tuples, same.tuples, areEqual) {
			t.Errorf("%s: an argument is changed", x.l.Name)
		}
	}
}

// DOC.md, rule 5: equal parts of a program are in different places.
func TestMemoryOfEqualParts(t *testing.T) {
	l := statetest.Language("language equal\ninputs int\nsymbol S int\nsymbol A int\nsymbol B int\nrule S = mul(A, A)\nrule A = add(B, B)\nrule B = neg(B)\nrule B = in0\n")
	b, e := bottomup.Build(l, statetest.Numbers(3), 9)
	if e != api.OK {
		t.Fatal(e)
	}
	x, e := bottomup.Find(l, []api.Example{number(3, 36)}, 9)
	if e != api.OK || !slices.Equal(printed(l, []api.Term{x}), []string{"mul(add(in0, in0), add(in0, in0))"}) {
		t.Fatal(write(x), e)
	}
	isUsed := map[any]bool{}
	for _, list := range append(b.Terms, []api.Term{x}) {
		for _, cell := range cells(list) {
			if isUsed[cell] {
				t.Fatal("a result shares memory")
			}
			isUsed[cell] = true
		}
	}
}

// lastOf returns the last representative of the start symbol, or the zero Term.
func lastOf(b bottomup.Bank) api.Term {
	if n := len(b.Terms[0]); n > 0 {
		return b.Terms[0][n-1]
	}
	return api.Term{}
}
