package cache_test

import (
	"slices"
	"strconv"
	"strings"
	"testing"

	"synthesis/api"
	"synthesis/cache"
)

// made returns a cache with a capacity.
func made(capacity int) *cache.Cache {
	c, e := cache.New(capacity)
	if e != api.OK {
		panic(capacity)
	}
	return c
}

// leaf returns the term of a rule without arguments.
func leaf(rule int) api.Term { return api.Term{Rule: rule} }

// write returns a text of a term of any form.
func write(t api.Term) string {
	var b strings.Builder
	b.WriteString(strconv.Itoa(t.Rule))
	for _, arg := range t.Args {
		b.WriteString("(" + write(arg) + ")")
	}
	return b.String()
}

// A model is a cache that is a mere list, which follows the definitions.
type model struct {
	capacity               int
	keys                   []string
	programs               map[string]api.Term
	hits, misses, removals int
}

func modelOf(capacity int) *model { return &model{capacity: capacity, programs: map[string]api.Term{}} }

func (m *model) without(key string) []string {
	return slices.DeleteFunc(slices.Clone(m.keys), func(k string) bool { return k == key })
}

func (m *model) put(key string, t api.Term) {
	if !slices.Contains(m.keys, key) && len(m.keys) == m.capacity {
		m.keys = m.keys[:len(m.keys)-1]
		m.removals++
	}
	m.keys = append([]string{key}, m.without(key)...)
	m.programs[key] = t
}

func (m *model) peek(key string) (api.Term, bool) {
	if !slices.Contains(m.keys, key) {
		return api.Term{}, false
	}
	return m.programs[key], true
}

func (m *model) get(key string) (api.Term, bool) {
	t, isKnown := m.peek(key)
	if !isKnown {
		m.misses++
		return t, false
	}
	m.hits++
	m.keys = append([]string{key}, m.without(key)...)
	return t, true
}

// The kinds of calls.
const (
	callPut = iota
	callGet
	callPeek
	callClear
	callKinds
)

// A call is a call of a method of a cache. A program is put for a number, so that programs can be told apart.
type call struct {
	kind, number int
	key          string
}

// perform calls the method of the cache and of the model, and compares the results.
func perform(t *testing.T, c *cache.Cache, m *model, x call) {
	t.Helper()
	switch x.kind {
	case callPut:
		y := api.Term{Rule: x.number, Args: []api.Term{leaf(-x.number)}}
		m.put(x.key, y)
		if e := c.Put(x.key, y); e != api.OK {
			t.Fatalf("Put of %q is %d", x.key, e)
		}
	case callGet:
		want, isThere := m.get(x.key)
		if got, is := c.Get(x.key); is != isThere || write(got) != write(want) {
			t.Fatalf("Get of %q is %s, %t, not %s, %t", x.key, write(got), is, write(want), isThere)
		}
	case callPeek:
		want, isThere := m.peek(x.key)
		if got, is := c.Peek(x.key); is != isThere || write(got) != write(want) {
			t.Fatalf("Peek of %q is %s, %t, not %s, %t", x.key, write(got), is, write(want), isThere)
		}
	default:
		m.keys = nil
		c.Clear()
	}
	compare(t, c, m)
}

// compare compares the keys and the counters.
func compare(t *testing.T, c *cache.Cache, m *model) {
	t.Helper()
	if keys := c.Keys(); !slices.Equal(keys, m.keys) {
		t.Fatalf("the keys are %q, not %q", keys, m.keys)
	}
	if x, y, z := c.Stats(); x != m.hits || y != m.misses || z != m.removals {
		t.Fatalf("the counters are %d, %d, %d, not %d, %d, %d", x, y, z, m.hits, m.misses, m.removals)
	}
}

// calls returns a long list of calls that looks irregular, for as many keys as wanted. It has Clear if this is wanted.
func calls(count, keys int, hasClear bool) []call {
	var list []call
	state := uint64(count + keys)
	next := func(n int) int {
		state = state*6364136223846793005 + 1442695040888963407
		return int(state>>33) % n
	}
	for i := range count {
		x := call{kind: next(callClear), number: i, key: strconv.Itoa(next(keys))}
		if hasClear && next(10*keys) == 0 {
			x.kind = callClear
		}
		list = append(list, x)
	}
	return list
}
