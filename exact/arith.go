package exact

import "vernier/api"

// The functions times, common and without know a divisor nil: it is 1. That
// spares most of the work for numbers with a power of two below the line.

// times returns the product of two numbers above 0.
func times(a, b natural) natural {
	switch {
	case a == nil:
		return b
	case b == nil:
		return a
	}
	return a.mul(b)
}

// common returns the greatest common divisor of two odd numbers.
func common(a, b natural) natural {
	if a == nil || b == nil {
		return nil
	}
	divisor := gcd(a, b)
	if divisor.isOne() {
		return nil
	}
	return divisor
}

// without returns a divided by one of its divisors.
func without(a, divisor natural) natural {
	if divisor == nil {
		return a
	}
	quotient, _ := a.divide(divisor)
	return quotient
}

// Add returns the sum.
func (x Num) Add(y Num) Num {
	switch {
	case x.top == nil:
		return y
	case y.top == nil:
		return x
	}
	// Only a divisor of shared can be common to the new numerator and
	// denominator: a smaller divisor to look for than with their product.
	shared := common(x.bottom, y.bottom)
	xRest, yRest := without(x.bottom, shared), without(y.bottom, shared)
	twos := min(x.twos, y.twos)
	a := times(x.top, yRest).left(x.twos - twos)
	b := times(y.top, xRest).left(y.twos - twos)
	neg, top := sumOfSigned(x.neg, a, y.neg, b)
	if top == nil {
		return Num{}
	}
	top, more := top.odd()
	again := common(top, shared)
	bottom := times(xRest, without(y.bottom, again))
	return fraction(neg, without(top, again), bottom, twos+more)
}

// sumOfSigned returns the sign and the size of a sum.
func sumOfSigned(aNeg bool, a natural, bNeg bool, b natural) (neg bool, sum natural) {
	switch {
	case aNeg == bNeg:
		return aNeg, a.add(b)
	case a.cmp(b) >= 0:
		return aNeg, a.sub(b)
	}
	return bNeg, b.sub(a)
}

// Sub returns the difference.
func (x Num) Sub(y Num) Num { return x.Add(y.Neg()) }

// Mul returns the product.
func (x Num) Mul(y Num) Num {
	if x.top == nil || y.top == nil {
		return Num{}
	}
	// Common divisors are across: each of both numbers has none of its own.
	a, b := common(x.top, y.bottom), common(y.top, x.bottom)
	top := times(without(x.top, a), without(y.top, b))
	bottom := times(without(x.bottom, b), without(y.bottom, a))
	return fraction(x.neg != y.neg, top, bottom, x.twos+y.twos)
}

// Quo returns the quotient.
func (x Num) Quo(y Num) (Num, api.Errno) {
	if y.top == nil {
		return Num{}, api.ErrZero
	}
	return x.Mul(y.inverse()), api.OK
}

// Power returns a power.
func (x Num) Power(n int) (Num, api.Errno) {
	switch {
	case n < -api.MaxPower || n > api.MaxPower:
		return Num{}, api.ErrRange
	case n == 0:
		return Int(1), api.OK
	case x.top == nil && n < 0:
		return Num{}, api.ErrZero
	case x.top == nil:
		return Num{}, api.OK
	case n < 0:
		x, n = x.inverse(), -n
	}
	bottom := x.bottom
	if bottom != nil {
		bottom = bottom.power(n)
	}
	return Num{x.neg && n%2 == 1, x.top.power(n), bottom, x.twos * n}, api.OK
}

// Shift multiplies by a power of two.
func (x Num) Shift(k int) (Num, api.Errno) {
	if k < -api.MaxShift || k > api.MaxShift {
		return Num{}, api.ErrRange
	}
	if x.top != nil {
		x.twos += k
	}
	return x, api.OK
}
