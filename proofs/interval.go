package proofs

import (
	"vernier/api"
	"vernier/exact"
)

// interval is the numbers from one end to the other one. What rules leave of a range
// may have its lower end above the upper one; then no number is in it.
type interval struct{ lo, hi exact.Num }

// only returns the interval that has one number alone.
func only(x exact.Num) interval { return interval{x, x} }

func half(x exact.Num) exact.Num {
	x, _ = x.Shift(-1)
	return x
}

func (a interval) has(x exact.Num) bool { return a.lo.Cmp(x) <= 0 && x.Cmp(a.hi) <= 0 }

func (a interval) hasZero() bool { return a.has(exact.Num{}) }

// isWithin compares the ends, whatever their order is.
func (a interval) isWithin(b interval) bool { return b.lo.Cmp(a.lo) <= 0 && a.hi.Cmp(b.hi) <= 0 }

// size returns the greatest size.
func (a interval) size() exact.Num { return a.lo.Abs().Max(a.hi.Abs()) }

// near returns the least size.
func (a interval) near() exact.Num {
	if a.hasZero() {
		return exact.Num{}
	}
	return a.lo.Abs().Min(a.hi.Abs())
}

func (a interval) neg() interval { return interval{a.hi.Neg(), a.lo.Neg()} }

func (a interval) abs() interval { return interval{a.near(), a.size()} }

func (a interval) add(b interval) interval { return interval{a.lo.Add(b.lo), a.hi.Add(b.hi)} }

func (a interval) sub(b interval) interval { return a.add(b.neg()) }

func (a interval) mul(b interval) interval {
	x, y, z, w := a.lo.Mul(b.lo), a.lo.Mul(b.hi), a.hi.Mul(b.lo), a.hi.Mul(b.hi)
	return interval{x.Min(y).Min(z).Min(w), x.Max(y).Max(z).Max(w)}
}

// quo returns the quotients, if the divisor is never 0.
func (a interval) quo(b interval) (q interval, is bool) {
	if b.hasZero() {
		return interval{}, false
	}
	lo, _ := exact.Int(1).Quo(b.hi)
	hi, _ := exact.Int(1).Quo(b.lo)
	return a.mul(interval{lo, hi}), true
}

// sqrt returns an interval that has the square roots, if no number is below 0.
func (a interval) sqrt() (r interval, is bool) {
	lo, e := a.lo.RootDown(api.PfBits)
	if e != api.OK {
		return interval{}, false
	}
	hi, _ := a.hi.RootUp(api.PfBits)
	return interval{lo, hi}, true
}

func (a interval) join(b interval) interval { return interval{a.lo.Min(b.lo), a.hi.Max(b.hi)} }

func (a interval) meet(b interval) interval { return interval{a.lo.Max(b.lo), a.hi.Min(b.hi)} }

func (a interval) widen(by exact.Num) interval { return interval{a.lo.Sub(by), a.hi.Add(by)} }

func (a interval) middle() exact.Num { return half(a.lo.Add(a.hi)) }

func (a interval) halfWidth() exact.Num { return half(a.hi.Sub(a.lo)) }

func (a interval) span() api.Span { return api.Span{Lo: a.lo.Text(), Hi: a.hi.Text()} }
