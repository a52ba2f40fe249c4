package proofs

import (
	"vernier/api"
	"vernier/exact"
	"vernier/floats"
)

// Rounding returns a bound of rounding errors.
func Rounding(mode int, f api.Format, most exact.Num) (exact.Num, api.Errno) {
	if mode < api.RnEven || mode > api.RnDown {
		return exact.Num{}, api.ErrArg
	}
	greatest, e := floats.Greatest(f)
	switch {
	case e != api.OK:
		return exact.Num{}, e
	case most.Sign() < 0:
		return exact.Num{}, api.ErrRange
	case most.Cmp(greatest) > 0:
		return exact.Num{}, ErrFault
	case most.Sign() == 0:
		return exact.Num{}, api.OK
	}
	step, _ := floats.Step(f, most)
	if mode == api.RnEven || mode == api.RnAway {
		return half(step), api.OK
	}
	return step, api.OK
}

// roundingOf returns the rounding error of a node by its range and its propagated
// error.
func (p *program) roundingOf(node int, s claim) (exact.Num, api.Errno) {
	if p.isExact(node) {
		return exact.Num{}, api.OK
	}
	return Rounding(p.Mode, p.format(node), s.size().Add(s.err))
}

// isExact reports whether a node is never rounded: what it may be is a value of its
// format.
func (p *program) isExact(node int) bool {
	n := p.Nodes[node]
	switch n.Op {
	case api.OpInput, api.OpState, api.OpConst:
		return true
	case api.OpNeg, api.OpAbs, api.OpCast:
		return p.areInside(node, n.A)
	case api.OpMin, api.OpMax:
		return p.areInside(node, n.A, n.B)
	case api.OpSel:
		return p.areInside(node, n.C, n.D)
	}
	return false
}

// areInside reports whether the formats of operands are inside that of a node.
func (p *program) areInside(node int, operands ...int) bool {
	for _, k := range operands {
		if !floats.Inside(p.format(k), p.format(node)) {
			return false
		}
	}
	return true
}
