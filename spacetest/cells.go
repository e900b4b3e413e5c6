package spacetest

import "synthesis/api"

// Cells returns the addresses of all elements of slices behind a version space, up to their capacities.
func Cells(s api.Space) []any {
	found := indexCells(s.Roots)
	nodes := s.Nodes[:cap(s.Nodes)]
	for i := range nodes {
		found = append(found, &nodes[i])
		options := nodes[i].Options[:cap(nodes[i].Options)]
		for k := range options {
			found = append(append(found, &options[k]), indexCells(options[k].Args)...)
		}
	}
	return found
}

func indexCells(list []int) []any {
	var found []any
	all := list[:cap(list)]
	for i := range all {
		found = append(found, &all[i])
	}
	return found
}

// TermCells returns the addresses of all elements of a list of terms and of slices behind them, up to their capacities.
func TermCells(list []api.Term) []any {
	var found []any
	all := list[:cap(list)]
	for i := range all {
		found = append(append(found, &all[i]), TermCells(all[i].Args)...)
	}
	return found
}
