package ranges

import (
	"vernier/api"
	"vernier/exact"
)

// intervals is the domain of ranges over a box.
type intervals struct {
	*subject
	box []Interval
}

// rangesOver returns the ranges of the nodes on which the node depends.
func (s *subject) rangesOver(box []Interval) ([]Interval, api.Errno) {
	return evaluate[Interval](s, intervals{s, box})
}

// rangeOver returns the range of the node.
func (s *subject) rangeOver(box []Interval) (Interval, api.Errno) {
	ranges, e := s.rangesOver(box)
	if e != api.OK {
		return Interval{}, e
	}
	return ranges[s.node], api.OK
}

func (d intervals) input(i int) Interval { return d.box[i] }

func (d intervals) number(x exact.Num) Interval { return only(x) }

func (d intervals) apply(node int, in []Interval) (Interval, api.Errno) {
	x, e := operate(d.Nodes[node].Op, in)
	return x.Out(api.RgBits), e
}

// operate returns what an operation makes of intervals, before it is rounded.
func operate(op int, in []Interval) (Interval, api.Errno) {
	switch op {
	case api.OpNeg:
		return in[0].Neg(), api.OK
	case api.OpAbs:
		return in[0].Abs(), api.OK
	case api.OpSqrt:
		return in[0].Sqrt(api.RgBits)
	case api.OpAdd:
		return in[0].Add(in[1]), api.OK
	case api.OpSub:
		return in[0].Sub(in[1]), api.OK
	case api.OpMul:
		return in[0].Mul(in[1]), api.OK
	case api.OpDiv:
		return in[0].Quo(in[1])
	case api.OpMin:
		return Interval{in[0].lo.Min(in[1].lo), in[0].hi.Min(in[1].hi)}, api.OK
	case api.OpMax:
		return Interval{in[0].lo.Max(in[1].lo), in[0].hi.Max(in[1].hi)}, api.OK
	case api.OpFma:
		return in[0].Mul(in[1]).Add(in[2]), api.OK
	case api.OpSel:
		return choose(in), api.OK
	}
	return in[0], api.OK
}

// choose returns what OpSel makes of intervals.
func choose(in []Interval) Interval {
	switch {
	case in[0].hi.Cmp(in[1].lo) <= 0:
		return in[2]
	case in[0].lo.Cmp(in[1].hi) > 0:
		return in[3]
	}
	return in[2].Join(in[3])
}
