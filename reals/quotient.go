package reals

import "vernier/exact"

// quotient is a number of a field: top divided by bottom, which is above 0. Where
// bottom is rational, it is 1. Otherwise it stays below the line: its inverse may
// be many times as long.
type quotient struct {
	field       *field
	top, bottom surd
}

// newQuotient returns top divided by bottom, which is above 0.
func newQuotient(f *field, top, bottom surd) quotient {
	if c, is := bottom.rational(); is && c.Cmp(one()) != 0 {
		by, _ := one().Quo(c)
		return quotient{f, top.scaled(by), constant(one())}
	}
	return quotient{f, top, bottom}
}

// whole returns a surd as a quotient.
func whole(f *field, x surd) quotient { return quotient{f, x, constant(one())} }

// rational returns the number that x is, if it is rational: then top is as many
// times bottom, in each of its parts.
func (x quotient) rational() (exact.Num, bool) {
	var ratio exact.Num
	for s, c := range x.bottom {
		ratio, _ = x.top[s].Quo(c)
		break
	}
	return ratio, x.top.equals(x.bottom.scaled(ratio))
}

func (x quotient) isZero() bool { return len(x.top) == 0 }

func (x quotient) negative() quotient { return quotient{x.field, x.top.negative(), x.bottom} }

// plus returns the sum with a number of the same field.
func (x quotient) plus(y quotient) quotient {
	f := x.field
	if x.bottom.equals(y.bottom) {
		return quotient{f, x.top.plus(y.top), x.bottom}
	}
	top := f.times(x.top, y.bottom).plus(f.times(y.top, x.bottom))
	return newQuotient(f, top, f.times(x.bottom, y.bottom))
}

func (x quotient) minus(y quotient) quotient { return x.plus(y.negative()) }

func (x quotient) times(y quotient) quotient {
	f := x.field
	return newQuotient(f, f.times(x.top, y.top), f.times(x.bottom, y.bottom))
}

// inverse returns 1 divided by x, which is not 0.
func (x quotient) inverse() quotient {
	if x.sign() < 0 {
		return newQuotient(x.field, x.bottom.negative(), x.top.negative())
	}
	return newQuotient(x.field, x.bottom, x.top)
}
