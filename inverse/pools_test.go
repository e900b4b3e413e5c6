package inverse_test

import (
	"math"
	"slices"
	"testing"

	"synthesis/api"
	"synthesis/inverse"
	"synthesis/operator"
	"synthesis/value"
)

var undefined = api.Outcome{Errno: api.ErrUndefined}

func gives(v api.Value) api.Outcome { return api.Outcome{Value: v} }

func sameIndices(a, b [][]int) bool { return slices.EqualFunc(a, b, slices.Equal[[]int]) }

// P10.4
func TestWithin(t *testing.T) {
	twos := of(n(1), n(2))
	for _, x := range []struct {
		name  string
		out   api.Outcome
		pools [][]api.Value
		want  [][]int
	}{
		{"add", gives(n(3)), all(twos, twos), [][]int{{0, 1}, {1, 0}}},
		{"add", gives(n(5)), all(twos, twos), nil},
		{"add", gives(n(2)), all(of(n(1), n(1)), of(n(1), n(0), n(1))), [][]int{{0, 0}, {0, 2}, {1, 0}, {1, 2}}},
		{"add", undefined, all(of(n(1000000), n(0)), of(n(0), n(1))), [][]int{{0, 1}}},
		{"head", undefined, all(of(l(), l(1), l())), [][]int{{0}, {2}}},
		{"head", gives(n(1)), all(of(l(), l(1), l(1, 2), l(2, 1))), [][]int{{1}, {2}}},
		{"not", gives(no), all(of(yes, no, yes)), [][]int{{0}, {2}}},
		{"not", undefined, all(of(yes, no)), nil},
		{"slice", gives(s("a")), all(of(s("aa"), s("ba")), of(n(0), n(1)), of(n(1), n(2))), [][]int{{0, 0, 0}, {0, 1, 1}, {1, 1, 1}}},
		{"slice", undefined, all(of(s("a")), of(n(1), n(2)), of(n(0), n(1))), [][]int{{0, 0, 0}, {0, 1, 0}, {0, 1, 1}}},
		{"add", gives(n(3)), all(nil, twos), nil},
		{"add", gives(n(3)), all(twos, nil), nil},
		{"add", undefined, all(nil, nil), nil},
		{"start", undefined, all(of(s("a")), of(value.OfPattern("("), value.OfPattern("a")), of(n(0))), [][]int{{0, 0, 0}}},
	} {
		if got, e := inverse.Within(x.name, x.out, x.pools); !sameIndices(got, x.want) || e != api.OK {
			t.Errorf("%s: %v in %v: %v, %d, not %v", x.name, x.out, x.pools, got, e, x.want)
		}
	}
}

// P10.4, P10.5: examples and edges.
func TestImage(t *testing.T) {
	twos := of(n(1), n(2))
	for _, x := range []struct {
		name  string
		pools [][]api.Value
		want  []api.Value
	}{
		{"add", all(twos, twos), of(n(2), n(3), n(4))},
		{"add", all(of(n(1000000), n(-1)), twos), of(n(0), n(1))},
		{"sub", all(of(n(1)), of(n(3), n(1), n(2))), of(n(-2), n(-1), n(0))},
		{"add", all(twos, nil), nil},
		{"add", all(nil, twos), nil},
		{"head", all(of(l())), nil},
		{"take", all(of(l(2, 1)), of(n(2), n(1), n(5), n(0), n(-1))), of(l(), l(2), l(2, 1))},
		{"concat", all(of(s("a"), s("ab")), of(s("bc"), s("c"))), of(s("abbc"), s("abc"), s("ac"))},
		{"ifint", all(of(yes, no), of(n(5)), of(n(4))), of(n(4), n(5))},
		{"less", all(twos, twos), of(no, yes)},
	} {
		if got, e := inverse.Image(x.name, x.pools); !same(got, x.want) || e != api.OK {
			t.Errorf("%s: %v, %d, not %v", x.name, got, e, x.want)
		}
	}
}

// somePool returns some values of a type, two of which are equal.
func somePool(typ int) []api.Value {
	switch typ {
	case api.Bool:
		return of(yes, no, yes)
	case api.Int:
		return of(n(1), n(0), n(-1), n(2), n(1), n(1000000))
	case api.Text:
		return of(s("a"), s(""), s("7"), s("a"), s("a b"), s(a64), s("a,7"))
	case api.Bits:
		return of(v(0), v(255), v(3), v(3), v(16))
	case api.Ints:
		return of(l(1, 2), l(), l(1, 2), l(-1, 1000000), l(2), value.OfInts(make([]int64, 9)))
	case api.Texts:
		return of(ls("b", "a"), ls(), ls(a64, ""), ls("b", "a"))
	case api.Table:
		return of(value.OfTable(nil), value.OfTable([][]string{{"b", "a"}, {"", "c"}}), value.OfTable([][]string{{"k", "x", "1"}}), value.OfTable(nil))
	}
	return of(value.OfPattern("a"), value.OfPattern("("), value.OfPattern(".*"), value.OfPattern("a"))
}

// P10.4 to P10.6: all operators, against all tuples of some pools.
func TestPoolsOfAllOperators(t *testing.T) {
	for _, name := range operator.Names() {
		o, _ := operator.Find(name)
		var pools [][]api.Value
		for _, typ := range o.Args {
			pools = append(pools, somePool(typ))
		}
		found := map[string][][]int{}
		var results []api.Value
		for _, indices := range indexTuples(pools) {
			var args []api.Value
			for i, index := range indices {
				args = append(args, pools[i][index])
			}
			result, e := operator.Apply(name, args)
			if e == api.OK && found[key(result)] == nil {
				results = append(results, result)
			}
			found[key(result)] = append(found[key(result)], indices)
		}
		slices.SortFunc(results, value.Compare)
		if got, e := inverse.Image(name, pools); !same(got, results) || e != api.OK {
			t.Errorf("%s: %v, %d, not %v", name, got, e, results)
		}
		for _, result := range results {
			want := found[key(result)]
			if got, e := inverse.Within(name, gives(result), pools); !sameIndices(got, want) || e != api.OK {
				t.Errorf("%s: %v is given by %v, %d, not %v", name, result, got, e, want)
			}
		}
		want := found[key(api.Value{})]
		if got, e := inverse.Within(name, undefined, pools); !sameIndices(got, want) || e != api.OK {
			t.Errorf("%s is undefined for %v, %d, not %v", name, got, e, want)
		}
	}
}

// indexTuples returns all tuples of indices into the pools, in ascending order.
func indexTuples(pools [][]api.Value) [][]int {
	tuples := [][]int{{}}
	for _, pool := range pools {
		var longer [][]int
		for _, indices := range tuples {
			for i := range pool {
				longer = append(longer, append(slices.Clone(indices), i))
			}
		}
		tuples = longer
	}
	return tuples
}

// P10.4, P10.5: the errors and their order.
func TestPoolErrors(t *testing.T) {
	bad := api.Value{Type: api.Bool, Num: 2}
	ones := all(of(n(1)), of(n(1)))
	for _, x := range []struct {
		name  string
		out   api.Outcome
		pools [][]api.Value
		want  api.Errno
		image api.Errno
	}{
		{"plus", gives(bad), nil, api.ErrName, api.ErrName},
		{"add", gives(bad), nil, api.ErrRange, api.ErrSize},
		{"add", gives(api.Value{}), ones, api.ErrType, api.OK},
		{"add", gives(s("a")), nil, api.ErrType, api.ErrSize},
		{"add", gives(n(1000001)), ones, api.ErrRange, api.OK},
		{"less", gives(n(1)), ones, api.ErrType, api.OK},
		{"add", api.Outcome{Errno: api.ErrRange}, nil, api.ErrForm, api.ErrSize},
		{"add", api.Outcome{Errno: api.ErrUndefined, Value: n(1)}, nil, api.ErrForm, api.ErrSize},
		{"add", api.Outcome{Errno: api.ErrUndefined, Value: bad}, nil, api.ErrForm, api.ErrSize},
		{"add", api.Outcome{Errno: api.ErrUndefined, Value: api.Value{Items: of(bad)}}, ones, api.ErrForm, api.OK},
		{"add", api.Outcome{Errno: api.ErrUndefined, Value: api.Value{Items: of()}}, ones, api.OK, api.OK},
		{"add", api.Outcome{Errno: -1}, ones, api.ErrForm, api.OK},
		{"add", api.Outcome{Errno: math.MinInt, Value: n(1)}, ones, api.ErrForm, api.OK},
		{"add", undefined, nil, api.ErrSize, api.ErrSize},
		{"add", undefined, all(of(bad)), api.ErrSize, api.ErrSize},
		{"add", undefined, all(of(n(1)), of(n(1)), of(bad)), api.ErrSize, api.ErrSize},
		{"add", undefined, all(of(n(1), bad), of(s("a"))), api.ErrRange, api.ErrRange},
		{"add", undefined, all(of(n(1), s("a"), bad), of(bad)), api.ErrType, api.ErrType},
		{"add", undefined, all(of(n(1)), of(n(1), s("a"), bad)), api.ErrType, api.ErrType},
		{"add", undefined, all(nil, of(bad)), api.ErrRange, api.ErrRange},
		{"add", undefined, all(of(s("a")), nil), api.ErrType, api.ErrType},
		{"take", undefined, all(of(n(1)), of(l(1))), api.ErrType, api.ErrType},
		{"take", undefined, all(of(l(1)), of(l(1))), api.ErrType, api.ErrType},
		{"head", undefined, all(of(value.OfInts([]int64{1000001}))), api.ErrRange, api.ErrRange},
		{"add", undefined, all(times(65, n(1)), append(times(64, n(1)), bad)), api.ErrRange, api.ErrRange},
	} {
		if got, e := inverse.Within(x.name, x.out, x.pools); e != x.want || len(got) > 0 && e != api.OK {
			t.Errorf("%s: %v: %v, %d, not %d", x.name, x.out, got, e, x.want)
		}
		if got, e := inverse.Image(x.name, x.pools); e != x.image || len(got) > 0 && e != api.OK {
			t.Errorf("%s: %v, %d, not %d", x.name, got, e, x.image)
		}
	}
	for _, name := range strangers() {
		_, e := inverse.Within(name, undefined, ones)
		_, f := inverse.Image(name, ones)
		if e != api.ErrName || f != api.ErrName {
			t.Errorf("%q: %d, %d", name, e, f)
		}
	}
}

// P10.4, P10.5: ErrLimit.
func TestPoolLimits(t *testing.T) {
	pool := func(i int) []api.Value { return times(i, n(1)) }
	texts := func(i int) []api.Value { return times(i, s("abc")) }
	for _, x := range []struct {
		name  string
		pools [][]api.Value
		want  int
	}{
		{"neg", all(pool(4096)), 4096},
		{"neg", all(pool(4097)), -1},
		{"add", all(pool(64), pool(64)), 4096},
		{"add", all(pool(64), pool(65)), -1},
		{"add", all(pool(65), pool(64)), -1},
		{"add", all(pool(63), pool(65)), 4095},
		{"add", all(pool(4096), pool(1)), 4096},
		{"add", all(pool(1), pool(4097)), -1},
		{"add", all(pool(100000), nil), 0},
		{"add", all(nil, pool(100000)), 0},
		{"add", all(pool(4097), pool(4097)), -1},
		{"slice", all(texts(16), pool(16), pool(16)), 4096},
		{"slice", all(texts(16), pool(16), pool(17)), -1},
		{"slice", all(texts(17), pool(16), pool(16)), -1},
		{"slice", all(texts(1), pool(2), pool(2049)), -1},
		{"slice", all(texts(5000), pool(5000), nil), 0},
		{"slice", all(texts(5000), nil, pool(5000)), 0},
	} {
		want := api.OK
		if x.want < 0 {
			x.want, want = 0, api.ErrLimit
		}
		out := map[string]api.Value{"neg": n(-1), "add": n(2), "slice": s("")}[x.name]
		got, e := inverse.Within(x.name, gives(out), x.pools)
		if len(got) != x.want || e != want {
			t.Errorf("%s: %d tuples, %d, not %d, %d", x.name, len(got), e, x.want, want)
		}
		results, e := inverse.Image(x.name, x.pools)
		if len(results) != min(x.want, 1) || e != want {
			t.Errorf("%s: %v, %d, not %d, %d", x.name, results, e, x.want, want)
		}
	}
}
