package inverse_test

import (
	"slices"
	"strings"
	"testing"

	"synthesis/api"
	"synthesis/operator"
	"synthesis/value"
)

func n(x int64) api.Value                  { return value.OfInt(x) }
func s(x string) api.Value                 { return value.OfText(x) }
func v(x int64) api.Value                  { return value.OfBits(x) }
func l(x ...int64) api.Value               { return value.OfInts(x) }
func ls(x ...string) api.Value             { return value.OfTexts(x) }
func of(args ...api.Value) []api.Value     { return args }
func all(t ...[]api.Value) [][]api.Value   { return t }
func same(a, b []api.Value) bool           { return slices.EqualFunc(a, b, value.Equal) }
func sameTuples(a, b [][]api.Value) bool   { return slices.EqualFunc(a, b, same) }
func compareTuples(a, b []api.Value) int   { return slices.CompareFunc(a, b, value.Compare) }
func times(i int, v api.Value) []api.Value { return slices.Repeat(of(v), i) }

// alone returns each value as a tuple.
func alone(values ...api.Value) [][]api.Value {
	var tuples [][]api.Value
	for _, v := range values {
		tuples = append(tuples, of(v))
	}
	return tuples
}

var (
	yes, no = value.OfBool(true), value.OfBool(false)
	a64     = strings.Repeat("a", 64)
)

// listsOf returns all lists of at most length of the elements.
func listsOf[T any](length int, elements ...T) [][]T {
	lists := [][]T{{}}
	for from := 0; length > 0; length-- {
		to := len(lists)
		for _, l := range lists[from:to] {
			for _, x := range elements {
				lists = append(lists, append(slices.Clone(l), x))
			}
		}
		from = to
	}
	return lists
}

// textsOf returns all texts of at most length bytes of the alphabet.
func textsOf(length int, alphabet string) []api.Value {
	var texts []api.Value
	for _, bytes := range listsOf(length, []byte(alphabet)...) {
		texts = append(texts, s(string(bytes)))
	}
	return texts
}

// intsOf returns the lists of at most length of the numbers.
func intsOf(length int, numbers ...int64) []api.Value {
	return each(value.OfInts, listsOf(length, numbers...)...)
}

// numbers returns the integers from least to most.
func numbers(least, most int64) []api.Value {
	var values []api.Value
	for x := least; x <= most; x++ {
		values = append(values, n(x))
	}
	return values
}

func allBits() []api.Value {
	var values []api.Value
	for x := range int64(256) {
		values = append(values, v(x))
	}
	return values
}

func each[G any](of func(G) api.Value, all ...G) []api.Value {
	var values []api.Value
	for _, g := range all {
		values = append(values, of(g))
	}
	return values
}

// visible returns all bytes of texts.
func visible() string {
	var b strings.Builder
	for c := byte(32); c <= 126; c++ {
		b.WriteByte(c)
	}
	return b.String()
}

// key returns a text that is different for different values.
func key(v api.Value) string {
	var b strings.Builder
	writeKey(&b, v)
	return b.String()
}

func writeKey(b *strings.Builder, v api.Value) {
	for _, x := range []int64{int64(v.Type), v.Num, int64(len(v.Text)), int64(len(v.Items))} {
		for range 4 {
			b.WriteByte(byte(x))
			x >>= 8
		}
	}
	b.WriteString(v.Text)
	for _, item := range v.Items {
		writeKey(b, item)
	}
}

// preimages returns for the key of each result of the operator the tuples of the pools that give it, in ascending order.
func preimages(t *testing.T, name string, pools ...[]api.Value) map[string][][]api.Value {
	t.Helper()
	found := map[string][][]api.Value{}
	for _, args := range products(pools) {
		if result, e := operator.Apply(name, args); e == api.OK {
			found[key(result)] = append(found[key(result)], args)
		}
	}
	for _, tuples := range found {
		slices.SortFunc(tuples, compareTuples)
	}
	return found
}

// products returns all tuples of values of the pools, one for each.
func products(pools [][]api.Value) [][]api.Value {
	if len(pools) == 0 {
		return all(nil)
	}
	var tuples [][]api.Value
	for _, first := range pools[0] {
		for _, rest := range products(pools[1:]) {
			tuples = append(tuples, append(of(first), rest...))
		}
	}
	return tuples
}

// strangers are names of no operator.
func strangers() []string {
	return []string{"", " ", "plus", "And", "and ", "and or", "concat\x00", strings.Repeat("not", 100000)}
}
