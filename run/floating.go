package run

import (
	"vernier/api"
	"vernier/exact"
	"vernier/floats"
)

// floating is the arithmetic of floating-point runs.
type floating struct {
	mode    int
	formats []api.Format
}

func (m floating) exactly(x exact.Num) exact.Num { return x }

func (m floating) atMost(a, b exact.Num) (is bool, stop int) { return a.Cmp(b) <= 0, 0 }

func (m floating) apply(op, format int, in []exact.Num) (exact.Num, int) {
	f := m.formats[format]
	if op == api.OpSqrt {
		x, e := floats.NearRoot(f, m.mode, in[0])
		return x, faultOf(e)
	}
	exactly, fault := compute(op, in)
	if fault != 0 {
		return exact.Num{}, fault
	}
	x, e := floats.Near(f, m.mode, exactly)
	return x, faultOf(e)
}

// faultOf returns the fault that an error of rounding is.
func faultOf(e api.Errno) int {
	switch e {
	case api.OK:
		return 0
	case api.ErrDomain:
		return api.RnRoot
	}
	return api.RnOverflow
}

// compute returns the value over the reals of an operation that is neither OpSqrt
// nor OpSel.
func compute(op int, in []exact.Num) (x exact.Num, fault int) {
	switch op {
	case api.OpNeg:
		return in[0].Neg(), 0
	case api.OpAbs:
		return in[0].Abs(), 0
	case api.OpAdd:
		return in[0].Add(in[1]), 0
	case api.OpSub:
		return in[0].Sub(in[1]), 0
	case api.OpMul:
		return in[0].Mul(in[1]), 0
	case api.OpDiv:
		x, e := in[0].Quo(in[1])
		if e != api.OK {
			return exact.Num{}, api.RnZero
		}
		return x, 0
	case api.OpMin:
		return in[0].Min(in[1]), 0
	case api.OpMax:
		return in[0].Max(in[1]), 0
	case api.OpFma:
		return in[0].Mul(in[1]).Add(in[2]), 0
	}
	return in[0], 0
}

// runFloat does the floating-point run.
func runFloat(p api.Prog, in []api.Rat, steps int) (trace[exact.Num], api.Errno) {
	x, _, e := readPlan(p, in, steps)
	if e != api.OK {
		return trace[exact.Num]{}, e
	}
	return x.runFloat(), api.OK
}

func (p *plan) runFloat() trace[exact.Num] {
	return perform[exact.Num](p, floating{p.Mode, p.Formats})
}
