package inverse

import (
	"slices"

	"synthesis/api"
	"synthesis/operator"
	"synthesis/value"
)

// Within returns the tuples of indices into pools of argument values for which the operator has the outcome.
func Within(name string, out api.Outcome, pools [][]api.Value) ([][]int, api.Errno) {
	o, isKnown := operator.Find(name)
	if !isKnown {
		return nil, api.ErrName
	}
	if e := checkOutcome(out, o.Result); e != api.OK {
		return nil, e
	}
	if e := checkPools(pools, o.Args); e != api.OK {
		return nil, e
	}
	var found [][]int
	for _, indices := range indexTuples(pools) {
		v, e := operator.Apply(name, chosen(pools, indices))
		if e == out.Errno && value.Equal(v, out.Value) {
			found = append(found, indices)
		}
	}
	return found, api.OK
}

// Image returns the results for all tuples of pools, each once, in ascending order.
func Image(name string, pools [][]api.Value) ([]api.Value, api.Errno) {
	o, isKnown := operator.Find(name)
	if !isKnown {
		return nil, api.ErrName
	}
	if e := checkPools(pools, o.Args); e != api.OK {
		return nil, e
	}
	var results []api.Value
	for _, indices := range indexTuples(pools) {
		if v, e := operator.Apply(name, chosen(pools, indices)); e == api.OK {
			results = append(results, v)
		}
	}
	slices.SortFunc(results, value.Compare)
	return slices.CompactFunc(results, value.Equal), api.OK
}

// checkOutcome checks that out is a valid value of the type t, or the undefined outcome.
func checkOutcome(out api.Outcome, t int) api.Errno {
	if out.Errno == api.OK {
		return checkTyped(out.Value, t)
	}
	if out.Errno != api.ErrUndefined || !value.Equal(out.Value, api.Value{}) {
		return api.ErrForm
	}
	return api.OK
}

// checkPools checks that there is a list of valid values for each of the types, and that there are not too many tuples of them.
func checkPools(pools [][]api.Value, types []int) api.Errno {
	if len(pools) != len(types) {
		return api.ErrSize
	}
	for i, pool := range pools {
		for _, v := range pool {
			if e := checkTyped(v, types[i]); e != api.OK {
				return e
			}
		}
	}
	if !areFew(pools) {
		return api.ErrLimit
	}
	return api.OK
}

// areFew reports whether there are at most MaxDomain tuples of values of the pools.
func areFew(pools [][]api.Value) bool {
	for _, pool := range pools {
		if len(pool) == 0 {
			return true
		}
	}
	tuples := 1
	for _, pool := range pools {
		// The product itself could overflow.
		if len(pool) > api.MaxDomain/tuples {
			return false
		}
		tuples *= len(pool)
	}
	return true
}

// indexTuples returns all tuples of indices into the pools, at most MaxDomain, in ascending order.
func indexTuples(pools [][]api.Value) [][]int {
	var choices [][]int
	for _, pool := range pools {
		var indices []int
		for i := range pool {
			indices = append(indices, i)
		}
		choices = append(choices, indices)
	}
	return products(choices, api.MaxDomain)
}

// chosen returns the values of the pools that have the indices.
func chosen(pools [][]api.Value, indices []int) []api.Value {
	args := make([]api.Value, len(pools))
	for i, pool := range pools {
		args[i] = pool[indices[i]]
	}
	return args
}
