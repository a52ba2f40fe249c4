package ranges

import (
	"vernier/api"
	"vernier/exact"
)

// Interval is the numbers from one end to the other one.
type Interval struct{ lo, hi exact.Num }

// only returns the interval that has one number alone.
func only(x exact.Num) Interval { return Interval{x, x} }

// From returns an interval.
func From(lo, hi exact.Num) (Interval, api.Errno) {
	if lo.Cmp(hi) > 0 {
		return Interval{}, api.ErrRange
	}
	return Interval{lo, hi}, api.OK
}

// Of returns the interval of a span.
func Of(s api.Span) (Interval, api.Errno) {
	a, e := readEnds(s)
	if e != api.OK {
		return Interval{}, e
	}
	return From(a.lo, a.hi)
}

// readEnds reads the ends of a span, whatever their order is.
func readEnds(s api.Span) (Interval, api.Errno) {
	lo, e := exact.Parse(s.Lo)
	if e != api.OK {
		return Interval{}, e
	}
	hi, e := exact.Parse(s.Hi)
	if e != api.OK {
		return Interval{}, e
	}
	return Interval{lo, hi}, api.OK
}

// Lo returns the lower end.
func (a Interval) Lo() exact.Num { return a.lo }

// Hi returns the upper end.
func (a Interval) Hi() exact.Num { return a.hi }

// Span returns the ends as texts.
func (a Interval) Span() api.Span { return api.Span{Lo: a.lo.Text(), Hi: a.hi.Text()} }

// Neg returns the negative numbers.
func (a Interval) Neg() Interval { return Interval{a.hi.Neg(), a.lo.Neg()} }

// Abs returns the sizes.
func (a Interval) Abs() Interval { return Interval{a.Near(), a.Size()} }

// Add returns the sums.
func (a Interval) Add(b Interval) Interval { return Interval{a.lo.Add(b.lo), a.hi.Add(b.hi)} }

// Sub returns the differences.
func (a Interval) Sub(b Interval) Interval { return a.Add(b.Neg()) }

// Mul returns the products. Which ends they come from is told by the signs.
func (a Interval) Mul(b Interval) Interval {
	switch {
	case a.lo.Sign() >= 0:
		lo, hi := a.lo, a.hi
		if b.lo.Sign() < 0 {
			lo = a.hi
		}
		if b.hi.Sign() < 0 {
			hi = a.lo
		}
		return Interval{lo.Mul(b.lo), hi.Mul(b.hi)}
	case a.hi.Sign() <= 0:
		return a.Neg().Mul(b).Neg()
	case b.lo.Sign() >= 0 || b.hi.Sign() <= 0:
		return b.Mul(a)
	}
	return Interval{a.lo.Mul(b.hi).Min(a.hi.Mul(b.lo)), a.lo.Mul(b.lo).Max(a.hi.Mul(b.hi))}
}

// Quo returns the quotients.
func (a Interval) Quo(b Interval) (Interval, api.Errno) {
	if b.Has(exact.Num{}) {
		return Interval{}, api.ErrZero
	}
	return a.Mul(Interval{inverseOf(b.hi), inverseOf(b.lo)}), api.OK
}

// Sqrt returns the square roots.
func (a Interval) Sqrt(bits int) (Interval, api.Errno) {
	lo, e := a.lo.RootDown(bits)
	if e != api.OK {
		return Interval{}, e
	}
	hi, _ := a.hi.RootUp(bits)
	return Interval{lo, hi}, api.OK
}

// Join returns the least interval that contains both.
func (a Interval) Join(b Interval) Interval { return Interval{a.lo.Min(b.lo), a.hi.Max(b.hi)} }

// Meet returns what both contain.
func (a Interval) Meet(b Interval) (Interval, bool) {
	x, e := From(a.lo.Max(b.lo), a.hi.Min(b.hi))
	return x, e == api.OK
}

// Has reports whether a number is in the interval.
func (a Interval) Has(x exact.Num) bool { return a.lo.Cmp(x) <= 0 && x.Cmp(a.hi) <= 0 }

// Size returns the greatest size.
func (a Interval) Size() exact.Num { return a.lo.Abs().Max(a.hi.Abs()) }

// Near returns the least size.
func (a Interval) Near() exact.Num {
	if a.Has(exact.Num{}) {
		return exact.Num{}
	}
	return a.lo.Abs().Min(a.hi.Abs())
}

// Out rounds outward.
func (a Interval) Out(bits int) Interval { return Interval{a.lo.Down(bits), a.hi.Up(bits)} }

func (a Interval) width() exact.Num { return a.hi.Sub(a.lo) }

func (a Interval) middle() exact.Num { return half(a.lo.Add(a.hi)) }

// isLong reports whether an end has too many digits.
func (a Interval) isLong() bool { return isLong(a.lo) || isLong(a.hi) }
