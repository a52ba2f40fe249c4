package ranges

import (
	"slices"

	"vernier/api"
	"vernier/exact"
	"vernier/lang"
)

// subject is a node of a valid program, and what is known of it without a box.
type subject struct {
	api.Prog
	node    int
	needs   []int // the nodes on which it depends, in their order
	kids    [][]int
	numbers []exact.Num // of the nodes OpConst
}

func newSubject(p api.Prog, node int) *subject {
	s := &subject{p, node, nil, make([][]int, node+1), make([]exact.Num, node+1)}
	depends := make([]bool, node+1)
	depends[node] = true
	for i := node; i >= 0; i-- { // operands come before the nodes that have them
		if !depends[i] {
			continue
		}
		s.needs = append(s.needs, i)
		s.kids[i] = lang.Kids(p.Nodes[i])
		for _, k := range s.kids[i] {
			depends[k] = true
		}
		if p.Nodes[i].Op == api.OpConst {
			s.numbers[i], _ = exact.Parse(p.Nodes[i].Value)
		}
	}
	slices.Reverse(s.needs)
	return s
}

// readSubject returns the node and the box that a function is asked for.
func readSubject(p api.Prog, box []api.Span, node int) (*subject, []Interval, api.Errno) {
	if _, _, e := lang.Check(p); e != api.OK {
		return nil, nil, e
	}
	if len(box) != len(p.Inputs) {
		return nil, nil, api.ErrArg
	}
	over, e := readBox(box)
	switch {
	case e != api.OK:
		return nil, nil, e
	case node < 0 || node >= len(p.Nodes):
		return nil, nil, api.ErrRange
	}
	return newSubject(p, node), over, api.OK
}

// isSmooth reports whether the node is smooth: it is exactly if no operation on
// which it depends stands against it.
func (s *subject) isSmooth() bool {
	return !slices.ContainsFunc(s.needs, func(i int) bool { return !isSmooth(s.Nodes[i].Op) })
}

func isSmooth(op int) bool {
	switch op {
	case api.OpInput, api.OpConst, api.OpNeg, api.OpCast, api.OpAdd, api.OpSub:
		return true
	case api.OpMul, api.OpFma, api.OpDiv, api.OpSqrt:
		return true
	}
	return false
}

// value is what a domain makes of a node.
type value interface{ isLong() bool }

// domain is what the operations of nodes are done in.
type domain[V value] interface {
	input(i int) V
	number(x exact.Num) V
	// apply does the operation of a node, which is none of OpInput, OpState and
	// OpConst.
	apply(node int, in []V) (V, api.Errno)
}

// evaluate returns the values of the nodes on which a node depends, or their first
// error.
func evaluate[V value](s *subject, d domain[V]) ([]V, api.Errno) {
	values := make([]V, s.node+1)
	for _, i := range s.needs {
		x, e := evaluateNode(s, d, i, values)
		switch {
		case e != api.OK:
			return nil, e
		case x.isLong():
			return nil, api.ErrLong
		}
		values[i] = x
	}
	return values, api.OK
}

// evaluateNode returns the value of one node, by those of the nodes before.
func evaluateNode[V value](s *subject, d domain[V], node int, values []V) (x V, e api.Errno) {
	n := s.Nodes[node]
	switch n.Op {
	case api.OpInput:
		return d.input(n.A), api.OK
	case api.OpState:
		return x, ErrState
	case api.OpConst:
		return d.number(s.numbers[node]), api.OK
	}
	var in [4]V
	for i, k := range s.kids[node] {
		in[i] = values[k]
	}
	return d.apply(node, in[:len(s.kids[node])])
}
