package proofs

import (
	"maps"

	"vernier/api"
	"vernier/exact"
)

// tight returns the tight claim of the claim of a node.
func (l *leaf) tight(node int) (claim, api.Errno) {
	o, is := l.operation(node)
	if !is {
		return claim{}, ErrClaim
	}
	c := l.claims[node]
	if e := checkRule(c); e != api.OK {
		return claim{}, e
	}
	s, is := o.step()
	if !is {
		return claim{}, ErrFault
	}
	var e api.Errno
	if s.interval, e = l.rangeByRule(node, o, s.interval); e != api.OK {
		return claim{}, e
	}
	if c.Rule == api.PfExact {
		return s, api.OK
	}
	rounding, e := l.roundingOf(node, s)
	if e != api.OK {
		return claim{}, e
	}
	s.err = s.err.Add(rounding)
	return s, api.OK
}

// checkRule checks the rule of a claim, and whether it may have the squares.
func checkRule(c api.PfClaim) api.Errno {
	switch {
	case len(c.Low) > api.MaxSquares || len(c.High) > api.MaxSquares:
		return api.ErrLong
	case c.Rule < api.PfStep || c.Rule > api.PfSquares:
		return ErrRule
	case hasSquares(c) && c.Rule != api.PfSquares:
		return ErrRule
	}
	return api.OK
}

// rangeByRule returns what the rule of a node's claim makes of the range of its step.
func (l *leaf) rangeByRule(node int, o operation, r interval) (interval, api.Errno) {
	switch l.claims[node].Rule {
	case api.PfExact:
		if !l.differsExactly(node, o) {
			return interval{}, ErrRule
		}
	case api.PfMean:
		form, e := l.mean(node)
		return r.meet(form), e
	case api.PfSquares:
		return l.rangeBySquares(node, r)
	}
	return r, api.OK
}

// differsExactly reports whether the difference of two floating-point values is a value
// of the node's format. It is, if neither is more than twice the other one.
func (l *leaf) differsExactly(node int, o operation) bool {
	n := l.Nodes[node]
	if n.Op != api.OpSub || !l.areInside(node, n.A, n.B) {
		return false
	}
	a, b := o.in[0].floating(), o.in[1].floating()
	return a.lo.Sign() > 0 && b.lo.Sign() > 0 && half(a.hi).Cmp(b.lo) <= 0 && half(b.hi).Cmp(a.lo) <= 0
}

// rangeBySquares returns the range of a node with those ends that squares prove.
func (l *leaf) rangeBySquares(node int, r interval) (interval, api.Errno) {
	f, e := l.polynomialOf(node)
	if e != api.OK {
		return interval{}, e
	}
	c := l.claims[node]
	if len(c.Low) > 0 {
		if r.lo, e = l.provedEnd(c.Lo, c.Low, f, exact.Int(1)); e != api.OK {
			return interval{}, e
		}
	}
	if len(c.High) > 0 {
		if r.hi, e = l.provedEnd(c.Hi, c.High, f, exact.Int(-1)); e != api.OK {
			return interval{}, e
		}
	}
	return r, api.OK
}

// provedEnd returns a claimed end, if the polynomial less the end, times the sign, is
// that of the squares.
func (l *leaf) provedEnd(end api.Rat, squares []api.PfSquare, f polynomial, sign exact.Num) (exact.Num, api.Errno) {
	x, e := exact.Parse(end)
	if e != api.OK {
		return exact.Num{}, e
	}
	sum, e := sumOfSquares(squares, l.over)
	if e != api.OK {
		return exact.Num{}, e
	}
	rest := polynomial{}
	rest.add(f, sign)
	rest.add(polynomial{powers{}: x}, sign.Neg())
	if !maps.EqualFunc(sum, rest, func(a, b exact.Num) bool { return a.Cmp(b) == 0 }) {
		return exact.Num{}, ErrRule
	}
	return x, api.OK
}
