package ranges

import (
	"slices"

	"vernier/api"
	"vernier/exact"
)

// derivatives is the domain of the ranges of derivatives by one input, over a box in
// which the nodes have these ranges.
type derivatives struct {
	*subject
	ranges []Interval
	by     int
}

func (d derivatives) input(i int) Interval {
	if i == d.by {
		return only(exact.Int(1))
	}
	return Interval{}
}

func (d derivatives) number(exact.Num) Interval { return Interval{} }

func (d derivatives) apply(node int, in []Interval) (Interval, api.Errno) {
	x, e := d.derive(node, in)
	return x.Out(api.RgBits), e
}

// derive returns the derivative of a node by those of its operands, before it is
// rounded.
func (d derivatives) derive(node int, in []Interval) (Interval, api.Errno) {
	var of [3]Interval // the ranges of the operands
	for i, k := range d.kids[node] {
		of[i] = d.ranges[k]
	}
	switch d.Nodes[node].Op {
	case api.OpNeg:
		return in[0].Neg(), api.OK
	case api.OpAdd:
		return in[0].Add(in[1]), api.OK
	case api.OpSub:
		return in[0].Sub(in[1]), api.OK
	case api.OpMul:
		return of[0].Mul(in[1]).Add(of[1].Mul(in[0])), api.OK
	case api.OpFma:
		return of[0].Mul(in[1]).Add(of[1].Mul(in[0])).Add(in[2]), api.OK
	case api.OpDiv:
		return of[1].Mul(in[0]).Sub(of[0].Mul(in[1])).Quo(of[1].Mul(of[1]))
	case api.OpSqrt:
		root := d.ranges[node]
		return in[0].Quo(root.Add(root))
	}
	return in[0], api.OK
}

// slopeBy returns the range of the derivative of the node by an input, by the ranges
// of the nodes.
func (s *subject) slopeBy(ranges []Interval, input int) (Interval, api.Errno) {
	all, e := evaluate[Interval](s, derivatives{s, ranges, input})
	if e != api.OK {
		return Interval{}, e
	}
	return all[s.node], api.OK
}

// slopesOver returns the ranges of the derivatives by all inputs.
func (s *subject) slopesOver(box []Interval) ([]Interval, api.Errno) {
	if !s.isSmooth() {
		return nil, ErrRule
	}
	ranges, e := s.rangesOver(box)
	if e != api.OK {
		return nil, e
	}
	slopes := make([]Interval, len(box))
	for i := range box {
		if slopes[i], e = s.slopeBy(ranges, i); e != api.OK {
			return nil, e
		}
	}
	return slopes, api.OK
}

// meanOver returns the mean value form over a box in which the derivatives are in
// slopes.
func (s *subject) meanOver(box, slopes []Interval) (Interval, api.Errno) {
	var reach exact.Num
	middle := make([]Interval, len(box))
	for i, a := range box {
		middle[i] = only(a.middle())
		reach = reach.Add(half(a.width()).Mul(slopes[i].Size()))
	}
	x, e := s.rangeOver(middle)
	if e != api.OK {
		return Interval{}, e
	}
	x = x.Add(Interval{reach.Neg(), reach}).Out(api.RgBits)
	if x.isLong() {
		return Interval{}, api.ErrLong
	}
	return x, api.OK
}

// monotoneOver returns the monotone range over a box in which the derivatives are in
// slopes.
func (s *subject) monotoneOver(box, slopes []Interval) (Interval, api.Errno) {
	least, greatest := slices.Clone(box), slices.Clone(box)
	for i, a := range box {
		switch {
		case slopes[i].lo.Sign() >= 0:
			least[i], greatest[i] = only(a.lo), only(a.hi)
		case slopes[i].hi.Sign() <= 0:
			least[i], greatest[i] = only(a.hi), only(a.lo)
		}
	}
	low, e := s.rangeOver(least)
	if e != api.OK {
		return Interval{}, e
	}
	high, e := s.rangeOver(greatest)
	if e != api.OK {
		return Interval{}, e
	}
	return Interval{low.lo, high.hi}, api.OK
}
