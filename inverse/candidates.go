package inverse

import (
	"synthesis/api"
	"synthesis/bitvec"
	"synthesis/operator"
	"synthesis/strs"
	"synthesis/value"
)

// plenty is the number of candidates that are enough to exceed the limit, if the operator gives the result for all of them.
const plenty = api.MaxInverse + 1

// candidates returns values in ascending order among which are all values of the argument at for which the operator gives the result out
// if the other arguments are known, or the first ones of these values if there are more than the limit permits.
func candidates(name string, out api.Value, at int, known ...api.Value) []api.Value {
	switch name {
	case "and", "or":
		return bools()
	case "not", "neg", "revtexts", "reverse", "bnot":
		return own(name, out)
	case "upper":
		return spellings(out.Text, strs.Upper)
	case "lower":
		return spellings(out.Text, strs.Lower)
	case "show":
		return numbersOf(out.Text)
	case "read":
		return tuple(value.OfText(strs.Show(out.Num)))
	case "running":
		return differences(out)
	case "concat":
		return restOfText(out.Text, at, known[0].Text)
	case "append":
		return restOfList(out, at, known[0])
	case "add", "sub", "mul", "shift", "scale":
		return solutions(name, out, at, known[0])
	}
	return bitsOf(name, out, at, known[0])
}

// firsts returns values in ascending order among which are all values of the first argument of tuples for which an invertible operator
// of two arguments gives the result out.
func firsts(name string, out api.Value) []api.Value {
	switch name {
	case "and", "or":
		return bools()
	case "concat":
		return textBeginnings(out.Text)
	case "append":
		return listBeginnings(out)
	}
	return allBits()
}

// tuple returns a tuple of values.
func tuple(values ...api.Value) []api.Value { return values }

func bools() []api.Value { return tuple(value.OfBool(false), value.OfBool(true)) }

func allBits() []api.Value {
	var all []api.Value
	for b := range int64(api.MaxBits + 1) {
		all = append(all, value.OfBits(b))
	}
	return all
}

// own returns the argument of an operator that undoes itself. Such an operator is defined for all valid arguments.
func own(name string, out api.Value) []api.Value {
	v, _ := operator.Apply(name, tuple(out))
	return tuple(v)
}

// bitsOf solves an operator on bit vectors for one of its two arguments.
func bitsOf(name string, out api.Value, at int, known api.Value) []api.Value {
	result, other := int(out.Num), int(known.Num)
	if name == "bsub" && at == 1 {
		// known - x = out exactly if x + out = known.
		name, result, other = "badd", other, result
	}
	var found []api.Value
	for _, x := range bitvec.Solve(name, result, other) {
		found = append(found, value.OfBits(int64(x)))
	}
	return found
}

// numbersOf returns the number whose numeral is s.
func numbersOf(s string) []api.Value {
	n, e := strs.Read(s)
	if e != api.OK {
		return nil
	}
	return tuple(value.OfInt(n))
}

// textBeginnings returns the beginnings of s, the shortest one first.
func textBeginnings(s string) []api.Value {
	var found []api.Value
	for _, parts := range strs.Splits(s) {
		found = append(found, value.OfText(parts[0]))
	}
	return found
}

// restOfText returns the part number at of the split of s whose other part is known.
func restOfText(s string, at int, known string) []api.Value {
	for _, parts := range strs.Splits(s) {
		if parts[1-at] == known {
			return tuple(value.OfText(parts[at]))
		}
	}
	return nil
}

// listBeginnings returns the beginnings of a list of integers, the shortest one first.
func listBeginnings(out api.Value) []api.Value {
	l, _ := value.Ints(out)
	var found []api.Value
	for length := range len(l) + 1 {
		found = append(found, value.OfInts(l[:length]))
	}
	return found
}

// restOfList returns the part of a list of integers that remains for the argument at, by the length of the known part.
func restOfList(out api.Value, at int, known api.Value) []api.Value {
	l, _ := value.Ints(out)
	length := len(l) - len(known.Items)
	if length < 0 {
		return nil
	}
	if at == 0 {
		return tuple(value.OfInts(l[:length]))
	}
	return tuple(value.OfInts(l[len(l)-length:]))
}

// differences returns the list whose sums are the elements of out. It is not valid if a difference is out of range.
func differences(out api.Value) []api.Value {
	l, _ := value.Ints(out)
	for i := len(l) - 1; i > 0; i-- {
		l[i] -= l[i-1]
	}
	return tuple(value.OfInts(l))
}

// spellings returns the texts of which change makes s, where change replaces letters by capital or small ones.
func spellings(s string, change func(string) string) []api.Value {
	var choices [][]byte
	for i := range len(s) {
		choices = append(choices, lettersFor(s[i:i+1], change))
	}
	var found []api.Value
	for _, letters := range products(choices, plenty) {
		found = append(found, value.OfText(string(letters)))
	}
	return found
}

// lettersFor returns the bytes of which change makes the text s of one byte.
func lettersFor(s string, change func(string) string) []byte {
	capital, small := strs.Upper(s), strs.Lower(s)
	letters := capital
	if small != capital {
		letters += small
	}
	var found []byte
	for i := range len(letters) {
		if change(letters[i:i+1]) == s {
			found = append(found, letters[i])
		}
	}
	return found
}

// products returns the lists that have one of the choices at each place, in ascending order if the choices are; the first ones of them, if there are more than limit.
func products[T any](choices [][]T, limit int) [][]T {
	lists := [][]T{{}}
	for _, elements := range choices {
		lists = extended(lists, elements, limit)
	}
	return lists
}

// extended returns the lists, each with each of the elements behind it.
func extended[T any](lists [][]T, elements []T, limit int) [][]T {
	var longer [][]T
	for _, l := range lists {
		for _, x := range elements {
			if len(longer) == limit {
				return longer
			}
			longer = append(longer, append(append([]T(nil), l...), x))
		}
	}
	return longer
}
