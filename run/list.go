package run

import (
	"slices"

	"vernier/api"
	"vernier/exact"
	"vernier/reals"
)

// realValue is a value of a real run: a number, or, if it is not plain, a node of
// the list.
type realValue struct {
	plain bool
	num   exact.Num
	node  int
}

func plainValue(x exact.Num) realValue { return realValue{plain: true, num: x} }

func arePlain(in []realValue) bool {
	return !slices.ContainsFunc(in, func(x realValue) bool { return !x.plain })
}

// list is a list of nodes of real numbers, with their weights.
type list struct {
	nodes   []api.RlNode
	weights []int
	roots   int
	spans   map[int]span // of the nodes that were compared
}

// span is the numbers from lo to hi.
type span struct{ lo, hi exact.Num }

func (s span) isPoint() bool { return s.lo.Cmp(s.hi) == 0 }

// extensible returns a copy for nodes that the list of a run does not have.
func (l *list) extensible() *list {
	return &list{nodes: slices.Clone(l.nodes), weights: slices.Clone(l.weights)}
}

func (l *list) put(x api.RlNode, weight int) int {
	l.nodes = append(l.nodes, x)
	l.weights = append(l.weights, weight)
	return len(l.nodes) - 1
}

// nodeOf returns the node of a value: for a plain one, a node that is appended.
func (l *list) nodeOf(x realValue) int {
	if !x.plain {
		return x.node
	}
	return l.put(api.RlNode{Kind: api.RlNum, Val: x.num.Text()}, x.num.Digits())
}

// add appends an operation of one node, or of two.
func (l *list) add(kind int, operands ...int) int {
	x := api.RlNode{Kind: kind, A: operands[0]}
	weight := l.weights[x.A]
	if len(operands) > 1 {
		x.B = operands[1]
		weight += l.weights[x.B]
	}
	if kind == api.RlRoot {
		l.roots++
	}
	return l.put(x, weight)
}

// isTooLarge reports whether the list, which was not too large before the last
// operation, is it now.
func (l *list) isTooLarge() bool {
	last := l.weights[len(l.weights)-1]
	return len(l.nodes) > api.MaxRnList || l.roots > api.MaxRlRoots || last > api.MaxRnWeight
}

// spanBits is to how many bits values are enclosed: so many that most of the values
// that differ from each other are told apart.
const spanBits = 128

func (l *list) spanOf(x realValue) span {
	if x.plain {
		return span{x.num, x.num}
	}
	s, is := l.spans[x.node]
	if !is {
		s.lo, s.hi, _ = reals.Enclose(l.nodes, x.node, spanBits)
		l.spans[x.node] = s
	}
	return s
}

// sign returns the sign of a value. Both ends of an enclosure have it.
func (l *list) sign(x realValue) int { return l.spanOf(x).lo.Sign() }

// cmp compares two values: by enclosures, as long as these suffice.
func (l *list) cmp(x, y realValue) int {
	a, b := l.spanOf(x), l.spanOf(y)
	switch {
	case a.hi.Cmp(b.lo) < 0:
		return -1
	case a.lo.Cmp(b.hi) > 0:
		return 1
	case a.isPoint() && b.isPoint():
		return 0
	}
	more := l.extensible()
	i, j := more.nodeOf(x), more.nodeOf(y)
	order, _ := reals.Cmp(more.nodes, i, j)
	return order
}
