// Package exact is layer 1: rational numbers of any size. See shared/doc/01-exact.md.
package exact

import (
	"cmp"

	"vernier/api"
)

// Num is a rational number: top / bottom times 2^twos, or the negative of it if
// neg. Both top and bottom are odd, and have no common divisor; top is nil for 0
// (then all fields are zero), and bottom is nil for 1. So each number has one
// Num, and a power of two costs nothing.
type Num struct {
	neg         bool
	top, bottom natural
	twos        int
}

// fraction returns top / bottom times 2^twos, or its negative. bottom is not 0,
// or nil for 1; both have no common divisor but powers of two.
func fraction(neg bool, top, bottom natural, twos int) Num {
	if len(top) == 0 {
		return Num{}
	}
	top, up := top.odd()
	twos += up
	if bottom != nil {
		var down int
		bottom, down = bottom.odd()
		twos -= down
	}
	if bottom.isOne() {
		bottom = nil
	}
	return Num{neg, top, bottom, twos}
}

// inverse returns 1 divided by x, which is not 0.
func (x Num) inverse() Num {
	top := x.bottom
	if top == nil {
		top = natural{1}
	}
	return fraction(x.neg, top, x.top, -x.twos)
}

// parts returns the numerator, without its sign, and the denominator.
func (x Num) parts() (top, bottom natural) {
	bottom = x.bottom
	if bottom == nil {
		bottom = natural{1}
	}
	return x.top.left(max(x.twos, 0)), bottom.left(max(-x.twos, 0))
}

// Int returns an integer.
func Int(n int64) Num {
	size := uint64(n)
	if n < 0 {
		size = -size
	}
	return fraction(n < 0, fromWord(size), nil, 0)
}

// Ratio returns a quotient of integers.
func Ratio(a, b int64) (Num, api.Errno) { return Int(a).Quo(Int(b)) }

// Two returns a power of two.
func Two(k int) (Num, api.Errno) { return Int(1).Shift(k) }

// Parts returns numerator and denominator.
func (x Num) Parts() (top, bottom Num) {
	divisor := x.bottom
	if divisor == nil {
		divisor = natural{1}
	}
	if x.top != nil {
		top = Num{x.neg, x.top, nil, max(x.twos, 0)}
	}
	return top, Num{false, divisor, nil, max(-x.twos, 0)}
}

// Twos returns the exponent of 2.
func (x Num) Twos() int { return x.twos }

// Sign returns the sign.
func (x Num) Sign() int {
	switch {
	case x.top == nil:
		return 0
	case x.neg:
		return -1
	}
	return 1
}

// Cmp compares two numbers.
func (x Num) Cmp(y Num) int {
	sign := x.Sign()
	if sign != y.Sign() {
		return cmp.Compare(sign, y.Sign())
	}
	if sign == 0 {
		return 0
	}
	return sign * cmpSizes(x, y)
}

// cmpSizes compares the sizes of two numbers that are not 0, with as little work
// as decides it.
func cmpSizes(x, y Num) int {
	if order := cmp.Compare(x.log(), y.log()); order != 0 {
		return order
	}
	a, b := times(x.top, y.bottom), times(y.top, x.bottom)
	if order := cmp.Compare(a.size()+x.twos, b.size()+y.twos); order != 0 {
		return order
	}
	return cmpHeads(a, b)
}

// log returns the logarithm of the size of x, which is not 0, rounded down.
func (x Num) log() int {
	if x.bottom == nil {
		return x.top.size() - 1 + x.twos
	}
	k := x.top.size() - x.bottom.size() + x.twos
	if cmpHeads(x.top, x.bottom) < 0 {
		k--
	}
	return k
}

// Neg returns the negative.
func (x Num) Neg() Num {
	x.neg = !x.neg && x.top != nil
	return x
}

// Abs returns the size.
func (x Num) Abs() Num {
	x.neg = false
	return x
}

// Min returns the lesser one.
func (x Num) Min(y Num) Num {
	if y.Cmp(x) < 0 {
		return y
	}
	return x
}

// Max returns the greater one.
func (x Num) Max(y Num) Num {
	if y.Cmp(x) > 0 {
		return y
	}
	return x
}
