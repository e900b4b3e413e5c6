package cache_test

import (
	"math"
	"slices"
	"strconv"
	"strings"
	"testing"

	"synthesis/api"
	"synthesis/cache"
)

// P23.1: the capacities at the ends of the range, and beyond.
func TestNew(t *testing.T) {
	for _, capacity := range []int{1, 2, 100, api.MaxTerms - 1, api.MaxTerms} {
		c, e := cache.New(capacity)
		if e != api.OK || c == nil {
			t.Fatalf("New of %d is %d", capacity, e)
		}
		compare(t, c, modelOf(capacity))
	}
	for _, capacity := range []int{0, -1, api.MaxTerms + 1, math.MinInt, math.MaxInt} {
		if c, e := cache.New(capacity); e != api.ErrRange || c != nil {
			t.Errorf("New of %d is %v, %d", capacity, c, e)
		}
	}
}

// P23.2, P23.3, P23.4: all short lists of calls, for small capacities.
func TestAllCalls(t *testing.T) {
	for capacity := 1; capacity <= 3; capacity++ {
		var extend func(list []call)
		extend = func(list []call) {
			if len(list) == 5 {
				c, m := made(capacity), modelOf(capacity)
				for _, x := range list {
					perform(t, c, m, x)
				}
				return
			}
			number := len(list) + 1
			for _, key := range []string{"", "a", "b"} {
				for kind := range callClear {
					extend(append(list, call{kind, number, key}))
				}
			}
			extend(append(list, call{kind: callClear}))
		}
		extend(nil)
	}
}

// P23.2, P23.3, P23.4: long lists of calls.
func TestManyCalls(t *testing.T) {
	for _, x := range []struct{ capacity, keys int }{{1, 3}, {2, 4}, {4, 5}, {5, 5}, {7, 20}, {30, 60}} {
		for _, hasClear := range []bool{false, true} {
			c, m := made(x.capacity), modelOf(x.capacity)
			for _, y := range calls(3000, x.keys, hasClear) {
				perform(t, c, m, y)
			}
			if m.hits == 0 || m.misses == 0 || (m.removals == 0) != (x.keys <= x.capacity) {
				t.Errorf("%v: %d, %d, %d", x, m.hits, m.misses, m.removals)
			}
		}
	}
}

// P23.2, P23.3: the examples.
func TestExamples(t *testing.T) {
	c := made(2)
	c.Put("a", leaf(1))
	c.Put("b", leaf(2))
	if x, is := c.Get("a"); !is || x.Rule != 1 {
		t.Error(x, is)
	}
	c.Put("c", leaf(3))
	stats := func() [3]int {
		x, y, z := c.Stats()
		return [3]int{x, y, z}
	}
	if keys := c.Keys(); !slices.Equal(keys, []string{"c", "a"}) || stats() != [3]int{1, 0, 1} {
		t.Error(keys, stats())
	}
	if x, is := c.Peek("b"); is || write(x) != write(api.Term{}) || stats() != [3]int{1, 0, 1} {
		t.Error(x, is, stats())
	}
	if x, is := c.Get("b"); is || write(x) != write(api.Term{}) || stats() != [3]int{1, 1, 1} {
		t.Error(x, is, stats())
	}
}

// P23.2: the greatest capacity, and one key more.
func TestFull(t *testing.T) {
	c := made(api.MaxTerms)
	for i := range api.MaxTerms {
		c.Put(strconv.Itoa(i), leaf(i))
	}
	if x, y, z := c.Stats(); x != 0 || y != 0 || z != 0 || len(c.Keys()) != api.MaxTerms {
		t.Errorf("%d, %d, %d, %d keys", x, y, z, len(c.Keys()))
	}
	c.Put("0", leaf(-1))
	c.Put("more", leaf(-2))
	if _, is := c.Peek("1"); is {
		t.Error("the last key was not removed")
	}
	for key, rule := range map[string]int{"0": -1, "2": 2, "more": -2, "4095": 4095} {
		if x, is := c.Peek(key); !is || x.Rule != rule {
			t.Errorf("%q: %v, %t", key, x, is)
		}
	}
	keys := c.Keys()
	if _, _, removals := c.Stats(); removals != 1 || len(keys) != api.MaxTerms || !slices.Equal(keys[:3], []string{"more", "0", "4095"}) || keys[len(keys)-1] != "2" {
		t.Errorf("%d, %d keys", removals, len(keys))
	}
}

// P23.2, P23.3: any strings are keys, and any terms are programs.
func TestAnyKeysAndPrograms(t *testing.T) {
	deep := leaf(7)
	for range 5000 {
		deep = api.Term{Rule: math.MinInt, Args: []api.Term{deep}}
	}
	programs := map[string]api.Term{
		"":                        {},
		"\x00":                    leaf(-1),
		"\x00\x00":                leaf(math.MaxInt),
		"\xff\xfe":                {Rule: 99999, Args: make([]api.Term, 50)},
		"a":                       {Rule: 1, Args: []api.Term{{Rule: 2, Args: []api.Term{leaf(3)}}, leaf(4)}},
		"A":                       {Args: []api.Term{}},
		"a ":                      deep,
		strings.Repeat("x", 1000): leaf(5),
	}
	c := made(len(programs))
	for key, x := range programs {
		if e := c.Put(key, x); e != api.OK {
			t.Errorf("%q: %d", key, e)
		}
	}
	for key, x := range programs {
		got, is := c.Get(key)
		peeked, isPeeked := c.Peek(key)
		if !is || !isPeeked || write(got) != write(x) || write(peeked) != write(x) {
			t.Errorf("%q: %t, %t", key, is, isPeeked)
		}
	}
}

// P23.4: Clear leaves the counters and the capacity, and the cache can be used again.
func TestClear(t *testing.T) {
	c, m := made(2), modelOf(2)
	before := []call{{callPut, 1, "a"}, {callPut, 2, "b"}, {callPut, 3, "c"}, {callGet, 0, "b"}, {callGet, 0, "a"}, {kind: callClear}}
	after := []call{{callGet, 0, "b"}, {callPeek, 0, "c"}, {callPut, 4, "b"}, {callPut, 5, "d"}, {callPut, 6, "e"}, {callGet, 0, "d"}, {callGet, 0, "b"}, {kind: callClear}, {kind: callClear}}
	for _, x := range slices.Concat(before, after) {
		perform(t, c, m, x)
	}
	if m.hits != 2 || m.misses != 3 || m.removals != 2 {
		t.Error(m)
	}
}

// checkUnmade checks that the methods do nothing.
func checkUnmade(t *testing.T, c *cache.Cache) {
	t.Helper()
	for range 2 {
		if e := c.Put("a", leaf(1)); e != api.ErrNil {
			t.Errorf("Put is %d", e)
		}
		if x, is := c.Get("a"); is || write(x) != write(api.Term{}) {
			t.Errorf("Get is %v, %t", x, is)
		}
		if x, is := c.Peek("a"); is || write(x) != write(api.Term{}) {
			t.Errorf("Peek is %v, %t", x, is)
		}
		if keys := c.Keys(); len(keys) > 0 {
			t.Errorf("Keys is %q", keys)
		}
		if x, y, z := c.Stats(); x != 0 || y != 0 || z != 0 {
			t.Errorf("Stats is %d, %d, %d", x, y, z)
		}
		c.Clear()
	}
}

// P23.5: no cache, one that is zero, and the copy of one, which leaves the original as it is.
func TestNil(t *testing.T) {
	checkUnmade(t, nil)
	checkUnmade(t, &cache.Cache{})
	var x struct{ c cache.Cache }
	checkUnmade(t, &x.c)
	c, m := made(2), modelOf(2)
	for _, y := range []call{{callPut, 7, "a"}, {callPut, 8, "b"}, {callGet, 0, "a"}, {callGet, 0, "c"}} {
		perform(t, c, m, y)
	}
	x.c = *c
	checkUnmade(t, &x.c)
	compare(t, c, m)
	perform(t, c, m, call{callPeek, 0, "a"})
	perform(t, c, m, call{callPut, 9, "c"})
}

// P23.6: the number of keys, after each call.
func TestKeysAndRemovals(t *testing.T) {
	for _, x := range []struct{ capacity, keys int }{{1, 2}, {3, 9}, {8, 8}} {
		c := made(x.capacity)
		stored := map[string]int{}
		added := 0
		for _, y := range calls(2000, x.keys, false) {
			got, isThere := c.Peek(y.key)
			if isThere && got.Rule != stored[y.key] {
				t.Fatalf("%q has %d, not %d", y.key, got.Rule, stored[y.key])
			}
			switch y.kind {
			case callPut:
				if c.Put(y.key, leaf(y.number)); !isThere {
					added++
				}
				stored[y.key] = y.number
			case callGet:
				c.Get(y.key)
			}
			keys := c.Keys()
			_, _, removals := c.Stats()
			slices.Sort(keys)
			if len(keys) > x.capacity || len(slices.Compact(keys)) < len(keys) || len(keys) != added-removals {
				t.Fatalf("%d keys, %d added, %d removed", len(keys), added, removals)
			}
		}
	}
}

// P23.6: a cache with a greater capacity has the same hits, and perhaps more.
func TestCapacitiesCompared(t *testing.T) {
	for _, hasClear := range []bool{false, true} {
		var caches []*cache.Cache
		for capacity := 1; capacity <= 10; capacity++ {
			caches = append(caches, made(capacity))
		}
		for _, x := range calls(3000, 9, hasClear) {
			wasHit := false
			for _, c := range caches {
				switch x.kind {
				case callPut:
					c.Put(x.key, leaf(x.number))
				case callGet:
					_, isHit := c.Get(x.key)
					if wasHit && !isHit {
						t.Fatalf("%q is missing in a greater cache", x.key)
					}
					wasHit = isHit
				case callPeek:
					c.Peek(x.key)
				default:
					c.Clear()
				}
			}
		}
	}
}
