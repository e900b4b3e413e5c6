package graph_test

import (
	"slices"
	"strconv"
	"strings"

	"synthesis/api"
	"synthesis/spacetest"
)

var rules = spacetest.Mixed()

// A written is a term as a text, with its rule and the texts of its arguments.
type written struct {
	text string
	rule int
	args []string
}

// termsOf returns the terms of each node.
func termsOf(nodes []api.Node) [][]written {
	all := make([][]written, len(nodes))
	for i, n := range nodes {
		for _, o := range n.Options {
			for _, args := range argumentsOf(all, o.Args) {
				text := strconv.Itoa(o.Rule) + "(" + strings.Join(args, " ") + ")"
				all[i] = append(all[i], written{text, o.Rule, args})
			}
		}
	}
	return all
}

// argumentsOf returns the lists of terms, one of each node.
func argumentsOf(all [][]written, nodes []int) [][]string {
	lists := [][]string{nil}
	for _, n := range nodes {
		var longer [][]string
		for _, list := range lists {
			for _, t := range all[n] {
				longer = append(longer, append(slices.Clone(list), t.text))
			}
		}
		lists = longer
	}
	return lists
}
