package inverse_test

import (
	"testing"

	"synthesis/api"
	"synthesis/inverse"
	"synthesis/value"
)

// deepCopy returns copies of values that share no memory with them.
func deepCopy(values []api.Value) []api.Value {
	var copies []api.Value
	for _, v := range values {
		v.Items = deepCopy(v.Items)
		copies = append(copies, v)
	}
	return copies
}

// spoil overwrites the values and their elements, and the memory behind them.
func spoil(values []api.Value) {
	for _, v := range values {
		spoil(v.Items)
	}
	all := values[:cap(values)]
	for i := range all {
		all[i] = api.Value{Type: -1}
	}
}

// checkMemory checks that call, which is given copies of the values, neither changes them, nor returns memory that it shares with them or that its results share.
func checkMemory(t *testing.T, name string, values []api.Value, call func(values []api.Value) [][]api.Value) {
	t.Helper()
	mine := deepCopy(values)
	got, again := call(mine), call(mine)
	if !same(mine, values) {
		t.Errorf("%s changes %v", name, values)
	}
	for i := range got {
		spoil(got[i])
		for k := i + 1; k < len(got); k++ {
			if !same(got[k], again[k]) {
				t.Errorf("%s %v: the results share memory", name, values)
			}
		}
	}
	if !same(mine, values) {
		t.Errorf("%s %v: the result shares memory with an argument", name, values)
	}
	want := call(mine)
	spoil(mine)
	if !sameTuples(again, want) {
		t.Errorf("%s %v: the result shares memory with an argument or a result", name, values)
	}
}

// DOC.md, rule 5, for Tuples and Given.
func TestInverseMemory(t *testing.T) {
	for _, x := range []struct {
		name       string
		out, known api.Value
	}{
		{"append", l(1, 2, 3), l(1)},
		{"append", l(1, 2, 3), l(3)},
		{"append", l(1, 2, 3), l()},
		{"concat", s("abc"), s("a")},
		{"and", no, no},
		{"band", v(255), v(255)},
		{"bxor", v(1), v(255)},
		{"shift", l(1, 2), l(0, 1)},
		{"shift", l(1, 2), n(1)},
		{"scale", l(2, 4), n(2)},
		{"scale", l(), n(0)},
		{"sub", n(2), n(1)},
	} {
		checkMemory(t, x.name, of(x.out), func(values []api.Value) [][]api.Value {
			tuples, _ := inverse.Tuples(x.name, values[0])
			return tuples
		})
		for at := range 2 {
			checkMemory(t, x.name, of(x.out, x.known), func(values []api.Value) [][]api.Value {
				found, _ := inverse.Given(x.name, values[0], at, values[1:])
				return alone(found...)
			})
		}
	}
	for name, out := range map[string]api.Value{"reverse": l(1, 2, 3), "revtexts": ls("a", "b"), "running": l(1, 2, 3), "upper": s("AB"), "not": no} {
		checkMemory(t, name, of(out), func(values []api.Value) [][]api.Value {
			tuples, _ := inverse.Tuples(name, values[0])
			found, _ := inverse.Given(name, values[0], 0, nil)
			return append(tuples, alone(found...)...)
		})
	}
}

// DOC.md, rule 5: the memory behind a list of known values stays as it is.
func TestMemoryBehindKnown(t *testing.T) {
	values := of(n(1), n(2), n(3))
	for at := range 2 {
		if got, e := inverse.Given("sub", n(4), at, values[:1]); len(got) != 1 || e != api.OK {
			t.Error(at, got, e)
		}
		if !same(values, of(n(1), n(2), n(3))) {
			t.Error(at, values)
		}
	}
}

// DOC.md, rule 5, for Within and Image.
func TestPoolMemory(t *testing.T) {
	pools := all(of(l(1, 2), l(3), l()), of(l(4), l(), l(1, 2)))
	for i := range pools {
		checkMemory(t, "append", pools[i], func(values []api.Value) [][]api.Value {
			changed := all(pools[0], pools[1])
			changed[i] = values
			results, e := inverse.Image("append", changed)
			if e != api.OK || len(results) == 0 {
				t.Error(results, e)
			}
			return alone(results...)
		})
	}
	first, _ := inverse.Within("append", gives(l(1, 2)), pools)
	want := [][]int{{0, 1}, {2, 2}}
	if !sameIndices(first, want) {
		t.Fatal(first)
	}
	for i := range first[0][:cap(first[0])] {
		first[0][:cap(first[0])][i] = -1
	}
	second, _ := inverse.Within("append", gives(l(1, 2)), pools)
	if !sameIndices(first[1:], want[1:]) || !sameIndices(second, want) || !value.Equal(pools[0][0], l(1, 2)) {
		t.Error(first, second)
	}
}
