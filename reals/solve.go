package reals

import (
	"vernier/api"
	"vernier/exact"
)

// value is what is known of a node: its error, or its value and the roots that it
// keeps. A node that keeps no roots is plain.
type value struct {
	quotient
	roots rootSet
	e     api.Errno
}

func (x value) isPlain() bool { return x.roots == rootSet{} }

// solver finds the values of nodes of a list that has no error of its own.
type solver struct {
	nodes   []api.RlNode
	nums    []exact.Num
	weights []int
	values  []value
	squares map[int]surd // of roots that are not plain, in the fields of their operands
	towers  map[rootSet]*tower
}

func newSolver(l []api.RlNode, nums []exact.Num) *solver {
	return &solver{
		nodes:   l,
		nums:    nums,
		weights: make([]int, len(l)),
		values:  make([]value, len(l)),
		squares: map[int]surd{},
		towers:  map[rootSet]*tower{{}: {}},
	}
}

// tower returns the tower of some roots that a node keeps, or two nodes together.
func (s *solver) tower(roots rootSet) *tower {
	t := s.towers[roots]
	if t == nil {
		t = s.tower(roots.rest()).extended(roots[0], s.squares[roots[0]])
		s.towers[roots] = t
	}
	return t
}

// solve returns the value of the node i.
func (s *solver) solve(i int) value {
	for j := range needed(s.nodes, i) {
		s.weights[j] = weigh(s.nodes[j], s.nums[j], s.weights)
		s.values[j] = s.solveNode(j)
	}
	return s.values[i]
}

// solveNode finds the value of a node; those of the nodes that it uses are known.
func (s *solver) solveNode(j int) value {
	x := s.nodes[j]
	var in [2]value
	for n, k := range operands(x) {
		in[n] = s.values[k]
	}
	a, b := in[0], in[1]
	switch {
	case a.e != api.OK:
		return a
	case b.e != api.OK:
		return b
	case s.weights[j] > api.MaxRlWeight:
		return value{e: api.ErrLong}
	case x.Kind == api.RlQuo && b.isZero():
		return value{e: api.ErrZero}
	case x.Kind == api.RlNum:
		return value{quotient: whole(nil, constant(s.nums[j]))}
	case x.Kind == api.RlRoot:
		return s.solveRoot(j, a)
	case len(operands(x)) == 1:
		return value{quotient: unary(x.Kind, a.quotient), roots: a.roots}
	}
	roots, fit := a.roots.union(b.roots)
	if !fit {
		return value{e: api.ErrLong}
	}
	t := s.tower(roots)
	return value{quotient: binary(x.Kind, t.raised(a.quotient), t.raised(b.quotient)), roots: roots}
}

// solveRoot finds the value of the node j, the root of a.
func (s *solver) solveRoot(j int, a value) value {
	if a.sign() < 0 {
		return value{e: api.ErrDomain}
	}
	if a.isPlain() {
		if root, is := a.top[rootSet{}].Root(); is {
			return value{quotient: whole(nil, constant(root))}
		}
	}
	roots, fit := a.roots.union(rootSet{j})
	if !fit {
		return value{e: api.ErrLong}
	}
	// The root of top / bottom is that of top times bottom, divided by bottom.
	s.squares[j] = a.field.times(a.top, a.bottom)
	t := s.tower(roots)
	return value{quotient: newQuotient(t.field, t.roots[j], t.lifted(a.bottom)), roots: roots}
}

// unary returns the negative or the size of a number.
func unary(kind int, x quotient) quotient {
	if kind == api.RlNeg || x.sign() < 0 {
		return x.negative()
	}
	return x
}

// binary does an operation with two numbers of one field; to divide by y, this is
// not 0.
func binary(kind int, x, y quotient) quotient {
	switch kind {
	case api.RlAdd:
		return x.plus(y)
	case api.RlSub:
		return x.minus(y)
	case api.RlMul:
		return x.times(y)
	case api.RlQuo:
		return x.times(y.inverse())
	}
	if (kind == api.RlMax) == (x.minus(y).sign() < 0) {
		return y
	}
	return x
}
