package cache_test

import (
	"slices"
	"testing"

	"synthesis/api"
)

// spoil overwrites the arguments of a term, and the memory behind them.
func spoil(t api.Term) {
	for _, arg := range t.Args {
		spoil(arg)
	}
	all := t.Args[:cap(t.Args)]
	for i := range all {
		all[i] = leaf(-99)
	}
}

// program returns a new term.
func program() api.Term {
	return api.Term{Rule: 1, Args: []api.Term{{Rule: 2, Args: []api.Term{leaf(3), leaf(4)}}, leaf(5)}}
}

// DOC.md, rule 5: what is stored does not change with the arguments or the results, and arguments stay as they are.
func TestMemory(t *testing.T) {
	c := made(3)
	x := program()
	c.Put("a", x)
	c.Put("b", x)
	if write(x) != write(program()) {
		t.Fatal("an argument is changed")
	}
	spoil(x)
	for range 2 {
		for _, key := range []string{"a", "b"} {
			got, _ := c.Get(key)
			peeked, _ := c.Peek(key)
			again, _ := c.Peek(key)
			if write(got) != write(program()) || write(peeked) != write(program()) {
				t.Fatalf("%q has %s and %s", key, write(got), write(peeked))
			}
			spoil(got)
			if write(peeked) != write(program()) {
				t.Fatal("Get and Peek share memory")
			}
			spoil(peeked)
			if write(again) != write(program()) {
				t.Fatal("results of Peek share memory")
			}
		}
		keys := c.Keys()
		all := keys[:cap(keys)]
		for i := range all {
			all[i] = "spoiled"
		}
		if keys := c.Keys(); !slices.Equal(keys, []string{"b", "a"}) {
			t.Fatal(keys)
		}
	}
}

// Two caches have nothing in common.
func TestCachesAreSeparate(t *testing.T) {
	a, b := made(2), made(2)
	a.Put("a", leaf(1))
	b.Put("b", leaf(2))
	b.Get("a")
	a.Clear()
	compare(t, a, modelOf(2))
	if keys := b.Keys(); !slices.Equal(keys, []string{"b"}) {
		t.Error(keys)
	}
	if x, y, z := b.Stats(); x != 0 || y != 1 || z != 0 {
		t.Error(x, y, z)
	}
}
