package proofs

import (
	"iter"
	"slices"

	"vernier/api"
	"vernier/exact"
)

// tree is the items of a proof, and the box of the first one.
type tree struct {
	items []api.PfItem
	over  []interval
}

// boxes yields the items up to the end of the tree, with their boxes. What is to be
// known of a split has to be right before the next item is asked for.
func (t tree) boxes() iter.Seq2[api.PfItem, []interval] {
	return func(yield func(api.PfItem, []interval) bool) {
		open := [][]interval{t.over} // the boxes of the items to come, the next one last
		for _, item := range t.items {
			last := len(open) - 1
			if last < 0 {
				return
			}
			over := open[last]
			open = open[:last]
			if !yield(item, over) {
				return
			}
			if item.Kind == api.PfSplit {
				lower, upper := halves(over, item)
				open = append(open, upper, lower)
			}
		}
	}
}

// halves returns the boxes of both halves of a split.
func halves(over []interval, item api.PfItem) (lower, upper []interval) {
	at, _ := exact.Parse(item.At)
	lower, upper = slices.Clone(over), slices.Clone(over)
	lower[item.Input].hi, upper[item.Input].lo = at, at
	return lower, upper
}

// leaves yields the numbers of the leaves of a tree, with their boxes.
func (t tree) leaves() iter.Seq2[int, []interval] {
	return func(yield func(int, []interval) bool) {
		i := 0
		for item, over := range t.boxes() {
			if item.Kind == api.PfLeaf && !yield(i, over) {
				return
			}
			i++
		}
	}
}

// contains reports whether a point is in a box.
func contains(over []interval, point []exact.Num) bool {
	for i, a := range over {
		if !a.has(point[i]) {
			return false
		}
	}
	return true
}
