package domain_test

import (
	"slices"
	"strings"

	"synthesis/api"
	"synthesis/value"
)

// of returns the domain with these axes.
func of(axes ...[]api.Value) api.Domain { return api.Domain{Axes: axes} }

// numbers returns an axis of integers.
func numbers(list ...int64) []api.Value {
	var axis []api.Value
	for _, n := range list {
		axis = append(axis, value.OfInt(n))
	}
	return axis
}

// texts returns an axis of texts.
func texts(list ...string) []api.Value {
	var axis []api.Value
	for _, s := range list {
		axis = append(axis, value.OfText(s))
	}
	return axis
}

// count returns the axis 0, 1, 2 and so on with as many integers as wanted.
func count(length int) []api.Value {
	axis := make([]api.Value, length)
	for i := range axis {
		axis[i] = value.OfInt(int64(i))
	}
	return axis
}

// repeated returns as many equal axes as wanted.
func repeated(axis []api.Value, times int) [][]api.Value {
	var axes [][]api.Value
	for range times {
		axes = append(axes, axis)
	}
	return axes
}

// strange returns values that are not valid.
func strange() []api.Value {
	return []api.Value{{}, {Type: -1}, {Type: 1 << 40, Num: -1 << 63}, value.OfInt(api.MaxInt + 1), value.OfPattern(""), {Type: api.Int, Text: "a"}, {Items: []api.Value{{Items: []api.Value{{}}}}}, value.OfTable([][]string{nil, {"a"}})}
}

// small returns domains with few tuples: without axes, with empty axes, with repetitions, and with values that are not valid.
func small() []api.Domain {
	table := value.OfTable([][]string{{"a", "b"}, {"c", "d"}})
	return []api.Domain{
		{}, of(nil), of([]api.Value{}), of(nil, nil), of(numbers(1, 2), nil), of(nil, numbers(1, 2)), of(numbers(1, 2), nil, texts("a")),
		of(numbers(5)), of(numbers(3, 1, 2)), of(numbers(0, 1), texts("a", "b", "c")), of(texts("a", "b", "c"), numbers(0, 1)),
		of(numbers(1, 2), numbers(2, 1), numbers(1, 2)), of(numbers(1), numbers(2), numbers(3, 4)), of(numbers(3, 4), numbers(2), numbers(1)),
		of([]api.Value{table, value.OfInts([]int64{1, 2}), value.OfInts(nil)}, []api.Value{table, value.OfTexts([]string{"a"})}),
		of(numbers(1, 1)), of(numbers(1, 2, 1), texts("a", "a")), of(texts("a", "b", "a", "b"), numbers(1, 1, 2)),
		of(strange(), numbers(1)), of(numbers(1, 2), strange()), of(strange(), strange()),
		of(numbers(1, 2), numbers(1, 2), numbers(1, 2), numbers(1, 2), numbers(1, 2), numbers(1, 2)),
		of(count(17), count(3), count(2)),
	}
}

// product follows the definition of the tuples of a domain: those with the first element of the first axis come first.
func product(axes [][]api.Value) [][]api.Value {
	if len(axes) == 0 {
		return [][]api.Value{nil}
	}
	var all [][]api.Value
	for _, v := range axes[0] {
		for _, rest := range product(axes[1:]) {
			all = append(all, append([]api.Value{v}, rest...))
		}
	}
	return all
}

func sameTuple(a, b []api.Value) bool { return slices.EqualFunc(a, b, value.Equal) }

func sameTuples(a, b [][]api.Value) bool { return slices.EqualFunc(a, b, sameTuple) }

func sameDomain(a, b api.Domain) bool { return sameTuples(a.Axes, b.Axes) }

// cells returns the addresses of all elements of slices behind values, up to their capacities.
func cells(values []api.Value) []*api.Value {
	var list []*api.Value
	all := values[:cap(values)]
	for i := range all {
		list = append(append(list, &all[i]), cells(all[i].Items)...)
	}
	return list
}

// lettersInOrder returns the n first texts of the letters a and b: each length after the shorter ones, and sorted byte by byte.
func lettersInOrder(n int) []string {
	var all []string
	level := []string{""}
	for len(all) < n {
		slices.Sort(level)
		all = append(all, level...)
		var next []string
		for _, s := range level {
			next = append(next, s+"b", s+"a")
		}
		level = next
	}
	return all[:n]
}

// table returns the table that arises from a text of letters.
func table(letters string) api.Value {
	var rows [][]string
	for _, s := range strings.Split(letters, "") {
		rows = append(rows, []string{strings.Repeat("a", strings.Count(s, "b"))})
	}
	return value.OfTable(rows)
}
