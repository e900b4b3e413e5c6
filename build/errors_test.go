package build_test

import (
	"math"
	"slices"
	"testing"

	"synthesis/api"
	"synthesis/build"
	"synthesis/example"
	"synthesis/grammar"
	"synthesis/spacetest"
	"synthesis/statetest"
	"synthesis/value"
)

// wrongBounds are not from 1 to MaxSize.
func wrongBounds() []int { return []int{0, -1, api.MaxSize + 1, math.MinInt, math.MaxInt} }

// P29.1 to P29.3: bounds on sizes, also where the state graph is too large.
func TestBounds(t *testing.T) {
	one := [][]api.Value{nil}
	for _, most := range wrongBounds() {
		checkErrors(t, statetest.Sums(), statetest.Numbers(1), most, api.ErrRange)
		checkErrors(t, statetest.Sums(), statetest.Numbers(1, 2), most, api.ErrRange)
		checkErrors(t, statetest.Sums(), nil, most, api.ErrRange)
		checkErrors(t, statetest.ManyStates(2), one, most, api.ErrRange)
	}
}

// P29.1 to P29.3: tuples that do not fit, before a wrong bound.
func TestTupleErrors(t *testing.T) {
	l, good, text, tooGreat := statetest.Sums(), value.OfInt(1), value.OfText("a"), value.OfInt(api.MaxInt+1)
	for _, most := range []int{1, 0, 99} {
		for i, x := range []struct {
			tuples [][]api.Value
			want   api.Errno
		}{
			{[][]api.Value{nil}, api.ErrSize},
			{[][]api.Value{{good, good}}, api.ErrSize},
			{[][]api.Value{{tooGreat, tooGreat}}, api.ErrSize},
			{[][]api.Value{{text}}, api.ErrType},
			{[][]api.Value{{{}}}, api.ErrType},
			{[][]api.Value{{tooGreat}}, api.ErrRange},
			{[][]api.Value{{{Type: api.Int, Text: "a"}}}, api.ErrForm},
			{[][]api.Value{{good}, {text}, nil}, api.ErrType},
			{[][]api.Value{{good}, nil, {text}}, api.ErrSize},
		} {
			if checkErrors(t, l, x.tuples, most, x.want); t.Failed() {
				t.Fatalf("case %d", i)
			}
		}
	}
}

// P29.1 to P29.3: invalid languages, before anything else.
func TestLanguageErrors(t *testing.T) {
	for _, l := range statetest.Invalid() {
		for _, tuples := range [][][]api.Value{nil, statetest.Numbers(1), {nil}, statetest.Numbers(api.MaxInt + 1)} {
			for _, most := range []int{1, 0} {
				checkErrors(t, l, tuples, most, grammar.Check(l))
			}
		}
		if s, e := build.Outcome(l, nil, api.Outcome{Errno: 1}, 0); e == api.OK || e != grammar.Check(l) || !spacetest.IsZero(s) {
			t.Errorf("%v, %d", s, e)
		}
	}
}

// P29.1: the errors of examples, in their order.
func TestExampleErrors(t *testing.T) {
	l, text := statetest.Sums(), value.OfText("a")
	good, conflict := []api.Example{number(1, 2)}, []api.Example{number(1, 2), number(1, 3)}
	for i, x := range []struct {
		l    api.Language
		list []api.Example
		most int
		want api.Errno
	}{
		{l, good, 3, api.OK},
		{l, slices.Repeat(good, api.MaxExamples), 3, api.OK},
		{l, slices.Repeat(good, api.MaxExamples+1), 3, api.ErrSize},
		{l, slices.Repeat(good, api.MaxExamples+1), 0, api.ErrSize},
		{l, conflict, 3, api.ErrConflict},
		{l, conflict, 0, api.ErrConflict},
		{l, []api.Example{number(1, api.MaxInt+1)}, 0, api.ErrRange},
		{l, []api.Example{{Inputs: []api.Value{value.OfInt(1)}, Output: text}}, 0, api.ErrType},
		{l, []api.Example{{Inputs: []api.Value{value.OfInt(1)}}}, 0, api.ErrType},
		{l, []api.Example{{Inputs: []api.Value{text}, Output: text}}, 3, api.ErrType},
		{l, []api.Example{{Output: text}}, 3, api.ErrSize},
		{statetest.ManyStates(2), []api.Example{{Output: value.OfInt(1)}, {Output: value.OfInt(2)}}, 3, api.ErrConflict},
		{statetest.ManyStates(2), []api.Example{{Output: value.OfInt(1)}}, 25, api.ErrRange},
		{statetest.ManyStates(2), []api.Example{{Output: value.OfInt(1)}}, 3, api.ErrLimit},
		{statetest.ManyStates(2), nil, 3, api.OK},
	} {
		if s, e := build.Space(x.l, x.list, x.most); e != x.want || e != api.OK && !spacetest.IsZero(s) {
			t.Errorf("case %d: %v, %d, not %d", i, s, e, x.want)
		}
		if e := example.Check(x.l, x.list); e != api.OK && e != x.want {
			t.Errorf("case %d: %d", i, e)
		}
	}
}

// P29.2: what is no outcome of a program, after a wrong tuple, and before a wrong bound.
func TestOutcomeErrors(t *testing.T) {
	l, one := statetest.Sums(), []api.Value{value.OfInt(1)}
	for i, want := range []api.Outcome{
		{},
		of(value.OfText("a")),
		of(value.OfBits(1)),
		of(value.OfInt(api.MaxInt + 1)),
		of(value.OfInt(-api.MaxInt - 1)),
		of(api.Value{Type: api.Int, Text: "a"}),
		of(api.Value{Type: 9}),
		{Value: value.OfInt(1), Errno: api.ErrUndefined},
		{Value: api.Value{Type: api.Int}, Errno: api.ErrUndefined},
		{Value: api.Value{Items: make([]api.Value, 1)}, Errno: api.ErrUndefined},
		{Errno: api.ErrRange},
		{Errno: api.ErrNone},
		{Errno: -1},
		{Errno: 99},
		{Value: value.OfInt(1), Errno: api.ErrRange},
	} {
		for _, most := range append(wrongBounds(), 1, api.MaxSize) {
			if s, e := build.Outcome(l, one, want, most); e != api.ErrForm || !spacetest.IsZero(s) {
				t.Errorf("case %d: %v, %d", i, s, e)
			}
		}
		if s, e := build.Outcome(l, nil, want, 1); e != api.ErrSize || !spacetest.IsZero(s) {
			t.Errorf("case %d: %v, %d", i, s, e)
		}
		if s, e := build.Outcome(statetest.ManyStates(2), nil, want, 3); e != api.ErrForm || !spacetest.IsZero(s) {
			t.Errorf("case %d: %v, %d", i, s, e)
		}
	}
}

// P29.1 to P29.3: exactly as many states and options as the limits permit, and one more. Symbols count that the start symbol does not derive.
func TestLimits(t *testing.T) {
	for i, x := range statetest.Limits() {
		if len(x.Tuples) == 0 {
			if s, e := build.Space(x.Language, nil, x.Most); e != api.OK || len(s.Nodes) != 1 {
				t.Errorf("case %d: %v, %d", i, s, e)
			}
			continue
		}
		if x.States > api.MaxNodes || x.Options > api.MaxOptions {
			checkErrors(t, x.Language, x.Tuples, x.Most, api.ErrLimit)
			continue
		}
		if n, e := build.States(x.Language, x.Tuples, x.Most); n != x.States || e != api.OK {
			t.Errorf("case %d: %d, %d, not %d", i, n, e, x.States)
		}
		// The first rule is the first integer; there is none with the second output.
		first := spacetest.SetOf(api.Term{})
		s, e := build.Space(x.Language, []api.Example{{Output: value.OfInt(1)}}, x.Most)
		checkSpace(t, x.Language, s, e, first)
		s, e = build.Outcome(x.Language, nil, of(value.OfInt(1)), x.Most)
		checkSpace(t, x.Language, s, e, first)
		s, e = build.Space(x.Language, []api.Example{{Output: value.OfInt(987654)}}, x.Most)
		checkSpace(t, x.Language, s, e, nil)
	}
}

// P29.1 to P29.3: tuples on which programs have few outcomes, and many. All examples count, and for Outcome the tuple alone.
func TestLimitsOfTuples(t *testing.T) {
	l, plain, rich := statetest.Included("strings"), []api.Value{value.OfText("")}, []api.Value{value.OfText("ada lovelace")}
	text := func(tuple []api.Value) api.Example { return api.Example{Inputs: tuple, Output: tuple[0]} }
	const most = 8
	for i, x := range []struct {
		list []api.Example
		want api.Errno
	}{
		{nil, api.OK},
		{[]api.Example{text(plain)}, api.OK},
		{[]api.Example{text(plain), text(plain)}, api.OK},
		{[]api.Example{text(plain), text(rich)}, api.ErrLimit},
		{[]api.Example{text(rich), text(plain)}, api.ErrLimit},
	} {
		s, e := build.Space(l, x.list, most)
		if e != x.want || spacetest.IsZero(s) != (e != api.OK) {
			t.Errorf("case %d: %d nodes, %d", i, len(s.Nodes), e)
		}
		var tuples [][]api.Value
		for _, y := range x.list {
			tuples = append(tuples, y.Inputs)
		}
		if n, e := build.States(l, tuples, most); e != x.want || (n == 0) != (e != api.OK) {
			t.Errorf("case %d: %d, %d", i, n, e)
		}
	}
	if s, e := build.Outcome(l, plain, of(plain[0]), most); e != api.OK || spacetest.IsZero(s) {
		t.Errorf("%d nodes, %d", len(s.Nodes), e)
	}
	if s, e := build.Outcome(l, rich, of(rich[0]), most); e != api.ErrLimit || !spacetest.IsZero(s) {
		t.Errorf("%d nodes, %d", len(s.Nodes), e)
	}
}

// P29.1 to P29.3: languages with far more states and options than the limits permit.
func TestFarBeyondLimits(t *testing.T) {
	for _, x := range statetest.IncludedFamilies() {
		if n, e := build.States(x.Language, x.Tuples, api.MaxSize); n != 0 || e != api.ErrLimit {
			t.Errorf("%s: %d, %d", x.Language.Name, n, e)
		}
		if s, e := build.Outcome(x.Language, x.Tuples[0], undefined(), api.MaxSize); e != api.ErrLimit || !spacetest.IsZero(s) {
			t.Errorf("%s: %v, %d", x.Language.Name, s, e)
		}
	}
}
