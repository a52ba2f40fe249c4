package bounds

import (
	"vernier/api"
	"vernier/exact"
)

// claim is where real values are claimed to be, and how far from them floating-point
// values are at most.
type claim struct{ lo, hi, err exact.Num }

// read returns a claim that is well-formed.
func read(c api.PfClaim) claim {
	lo, _ := exact.Parse(c.Lo)
	hi, _ := exact.Parse(c.Hi)
	err, _ := exact.Parse(c.Err)
	return claim{lo, hi, err}
}

// text returns the claim as that of a state.
func (c claim) text() api.PfClaim {
	return api.PfClaim{Lo: c.lo.Text(), Hi: c.hi.Text(), Err: c.err.Text()}
}

// outward returns the claim, rounded outward.
func (c claim) outward(bits int) claim {
	return claim{c.lo.Down(bits), c.hi.Up(bits), c.err.Up(bits)}
}

func (c claim) isLong() bool { return isLong(c.lo) || isLong(c.hi) || isLong(c.err) }

func isLong(x exact.Num) bool { return x.Digits() > api.MaxDigits }

// isBetter reports whether less is claimed: a lesser error, or the same one of a narrower
// range.
func (c claim) isBetter(d claim) bool {
	if order := c.err.Cmp(d.err); order != 0 {
		return order < 0
	}
	return c.width().Cmp(d.width()) < 0
}

func (c claim) width() exact.Num { return c.hi.Sub(c.lo) }

// isWithin reports whether d holds where c does.
func (c claim) isWithin(d claim) bool {
	return d.lo.Cmp(c.lo) <= 0 && c.hi.Cmp(d.hi) <= 0 && c.err.Cmp(d.err) <= 0
}

// join returns the least claim within which both are.
func (c claim) join(d claim) claim {
	return claim{c.lo.Min(d.lo), c.hi.Max(d.hi), c.err.Max(d.err)}
}

// widen returns a claim within which both are, and beyond d by its distance from c as
// often as a power of two says.
func (c claim) widen(d claim, power int) claim {
	to := c.join(d)
	return claim{beyond(c.lo, to.lo, power), beyond(c.hi, to.hi, power), beyond(c.err, to.err, power)}
}

// beyond goes on from y, in the direction from x to y.
func beyond(x, y exact.Num, power int) exact.Num {
	way, _ := y.Sub(x).Shift(power)
	return y.Add(way)
}
