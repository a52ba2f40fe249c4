package proofs

import (
	"vernier/api"
	"vernier/lang"
)

// leaf is a box of a program, and what is claimed there. Its claims are read when they
// are asked for, as those of other nodes are not looked at.
type leaf struct {
	*program
	over           []interval
	claims, states []api.PfClaim
	known          []*knownClaim
	forms          []*form // those that have been asked for
}

// knownClaim is a claim of a node that has been read, or its error.
type knownClaim struct {
	claim
	e api.Errno
}

func newLeaf(p *program, over []interval, claims, states []api.PfClaim) *leaf {
	return &leaf{p, over, claims, states, make([]*knownClaim, len(p.Nodes)), make([]*form, len(p.Nodes))}
}

// claimOf returns the claim of a node.
func (l *leaf) claimOf(node int) (claim, api.Errno) {
	if l.known[node] == nil {
		c := l.claims[node]
		read, e := readClaim(c.Lo, c.Hi, c.Err)
		l.known[node] = &knownClaim{read, e}
	}
	return l.known[node].claim, l.known[node].e
}

// stateOf returns the claim of a state.
func (l *leaf) stateOf(state int) (claim, api.Errno) {
	c := l.states[state]
	return readClaim(c.Lo, c.Hi, c.Err)
}

// operation returns a node with the claims that its step is made of, if they are
// well-formed.
func (l *leaf) operation(node int) (o operation, is bool) {
	n := l.Nodes[node]
	o = operation{op: n.Op, mode: l.Mode, format: l.format(node)}
	switch n.Op {
	case api.OpInput:
		o.in[0].interval = l.over[n.A]
	case api.OpConst:
		o.in[0].interval = only(l.number(node))
	case api.OpState:
		c, e := l.stateOf(n.A)
		o.in[0] = c
		return o, e == api.OK
	}
	for i, k := range lang.Kids(n) {
		c, e := l.claimOf(k)
		if e != api.OK {
			return operation{}, false
		}
		o.in[i] = c
	}
	return o, true
}
