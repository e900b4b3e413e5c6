package graph_test

import (
	"slices"
	"strconv"
	"strings"
	"testing"

	"synthesis/api"
	"synthesis/graph"
	"synthesis/spacetest"
)

// The places of nodes: each argument once, with one number for each context.
func TestPlaces(t *testing.T) {
	var d spacetest.Dice
	most := 0
	for range 300 {
		s := rules.Random(&d, d.Roll(20))
		textOf := map[int]string{}
		contextOf := map[string]int{}
		found := 0
		for i, list := range graph.Places(s.Nodes) {
			for k, p := range list {
				o := s.Nodes[p.Parent].Options[p.Option]
				if o.Args[p.Arg] != i || k > 0 && (list[k-1].Context > p.Context || list[k-1] == p) {
					t.Fatalf("%v: the places of %d are %v", s, i, list)
				}
				texts := []string{strconv.Itoa(o.Rule)}
				for n, arg := range o.Args {
					texts = append(texts, strconv.Itoa(arg))
					if n == p.Arg {
						texts[n+1] = "?"
					}
				}
				text := strings.Join(texts, " ")
				number, isKnown := contextOf[text]
				if before := textOf[p.Context]; isKnown && number != p.Context || before != "" && before != text {
					t.Fatalf("%v: the context %s has the numbers %d and %d", s, text, number, p.Context)
				}
				textOf[p.Context], contextOf[text] = text, p.Context
				found++
			}
		}
		want := 0
		for _, n := range s.Nodes {
			for _, o := range n.Options {
				want += len(o.Args)
			}
		}
		if found != want {
			t.Fatalf("%v has %d places, not %d", s, found, want)
		}
		most = max(most, found)
	}
	if places := graph.Places(nil); len(places) > 0 || most < 50 {
		t.Error(places, most)
	}
	first := []graph.Place{{Parent: 1}, {Context: 1, Parent: 2}}
	second := []graph.Place{{Context: 2, Parent: 2, Arg: 1}}
	places := graph.Places([]api.Node{spacetest.Leaf(0, 0), spacetest.Node(0, 2, spacetest.Option(1, 0)), spacetest.Node(0, 4, spacetest.Option(2, 0, 1))})
	if len(places) != 3 || !slices.Equal(places[0], first) || !slices.Equal(places[1], second) || len(places[2]) > 0 {
		t.Error(places)
	}
}
