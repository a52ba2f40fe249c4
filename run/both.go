package run

import (
	"vernier/api"
	"vernier/exact"
	"vernier/reals"
)

// both is both runs of a program, for the same input.
type both struct {
	*plan
	float trace[exact.Num]
	real  *realRun
}

// runBoth does both runs.
func runBoth(p api.Prog, in []api.Rat, steps int) (*both, api.Errno) {
	x, _, e := readPlan(p, in, steps)
	if e != api.OK {
		return nil, e
	}
	r, e := x.runReal()
	if e != api.OK {
		return nil, e
	}
	return &both{x, x.runFloat(), r}, api.OK
}

// fault returns the fault of the floating-point run, or that of the real one.
func (b *both) fault() api.RnFault {
	if b.float.fails() {
		return b.float.fault
	}
	return b.real.fault
}

// errorAround returns the multiples of 2^-bits next to the error of the input.
func (b *both) errorAround(bits int) (lo, hi exact.Num) {
	x, y := b.float.result(), b.real.result()
	if y.plain {
		size, _ := y.num.Sub(x).Abs().Shift(bits)
		lo, hi = size.Floor(), size.Ceil()
	} else {
		l := b.real.extensible()
		size := l.add(api.RlAbs, l.add(api.RlSub, y.node, l.nodeOf(plainValue(x))))
		minus := l.add(api.RlNeg, size)
		lo, _ = reals.Floor(l.nodes, size, bits)
		hi, _ = reals.Floor(l.nodes, minus, bits)
		hi = hi.Neg()
	}
	lo, _ = lo.Shift(-bits)
	hi, _ = hi.Shift(-bits)
	return lo, hi
}

// errorWithin reports whether the error of the input is at most a bound.
func (b *both) errorWithin(bound exact.Num) bool {
	x, y := b.float.result(), b.real.result()
	if y.plain {
		return y.num.Sub(x).Abs().Cmp(bound) <= 0
	}
	is, _ := reals.Within(b.real.nodes, y.node, x, bound) // false, too, for a bound below 0
	return is
}
