package reals

import (
	"vernier/api"
	"vernier/exact"
)

// span is the numbers from lo to hi.
type span struct{ lo, hi exact.Num }

// shifted returns x times 2^k, for any k.
func shifted(x exact.Num, k int) exact.Num {
	for k != 0 {
		by := min(max(k, -api.MaxShift), api.MaxShift)
		x, _ = x.Shift(by)
		k -= by
	}
	return x
}

// down is Down of package exact without its limit of bits.
func down(x exact.Num, bits int) exact.Num {
	k, e := x.Log()
	if e != api.OK { // x is 0
		return x
	}
	unit := k - bits + 1
	return shifted(shifted(x, -unit).Floor(), unit)
}

// up is Up of package exact without its limit of bits.
func up(x exact.Num, bits int) exact.Num { return down(x.Neg(), bits).Neg() }

// rounded returns the span with ends of at most so many bits.
func (x span) rounded(bits int) span { return span{down(x.lo, bits), up(x.hi, bits)} }

func (x span) plus(y span) span { return span{x.lo.Add(y.lo), x.hi.Add(y.hi)} }

// times returns the products with the numbers of a span that are not below 0.
func (x span) times(y span) span {
	least, greatest := y.lo, y.hi
	if x.lo.Sign() < 0 {
		least = y.hi
	}
	if x.hi.Sign() < 0 {
		greatest = y.lo
	}
	return span{x.lo.Mul(least), x.hi.Mul(greatest)}
}

// inverse returns what 1 divided by the numbers of a span above 0 is.
func (x span) inverse() span {
	lo, _ := one().Quo(x.hi)
	hi, _ := one().Quo(x.lo)
	return span{lo, hi}
}

// rootAbove returns a number that is not below the root of x, which is not below 0,
// and is as near to it as a number with about so many bits can be.
func rootAbove(x exact.Num, bits int) exact.Num {
	root, _ := x.RootUp(bits)
	// The mean of two numbers above 0 is not below the root of their product, and it
	// is right to twice as many bits as they are.
	for have := api.MaxBits - 2; have < bits; have = 2*have - 2 {
		other, _ := x.Quo(root)
		root = up(root.Add(other).Mul(half()), bits)
	}
	return root
}

// rootBelow is rootAbove for a number that is not above the root.
func rootBelow(x exact.Num, bits int) exact.Num {
	root, _ := x.RootDown(bits)
	if bits <= api.MaxBits {
		return root
	}
	root, _ = x.Quo(rootAbove(x, bits))
	return down(root, bits)
}

// root returns where the roots are of those numbers that are not below 0.
func (x span) root(bits int) span {
	return span{rootBelow(x.lo.Max(exact.Num{}), bits), rootAbove(x.hi, bits)}
}

// enclose returns where x is, told where its roots are.
func (x surd) enclose(roots map[int]span, bits int) span {
	var sum span
	for s, c := range x {
		product := span{c, c}.rounded(bits)
		for ; s[0] != 0; s = s.rest() {
			product = product.times(roots[s[0]]).rounded(bits)
		}
		sum = sum.plus(product)
	}
	return sum.rounded(bits)
}

// places returns where the roots of a field are.
func (f *field) places(bits int) map[int]span {
	if f == nil {
		return map[int]span{}
	}
	roots := f.below.places(bits)
	roots[f.root] = f.square.enclose(roots, bits).root(bits)
	return roots
}

// refiner returns a function that encloses x, with twice as many bits at each
// call.
func (x quotient) refiner() func() span {
	bits := 32
	return func() span {
		for {
			bits *= 2
			roots := x.field.places(bits)
			bottom := x.bottom.enclose(roots, bits)
			if bottom.lo.Sign() > 0 {
				return x.top.enclose(roots, bits).times(bottom.inverse()).rounded(bits)
			}
		}
	}
}

// decide returns what a step function is at x. It does not decrease, and it steps at
// rational numbers alone, of which finitely many are near to x, unless x is 0. So it
// is the same at both ends of an enclosure in the end, if x is not rational.
func (x quotient) decide(step func(exact.Num) exact.Num) exact.Num {
	if c, is := x.rational(); is {
		return step(c)
	}
	refine := x.refiner()
	for {
		near := refine()
		lo, hi := step(near.lo), step(near.hi)
		if lo.Cmp(hi) == 0 {
			return lo
		}
	}
}

func signOf(x exact.Num) exact.Num { return exact.Int(int64(x.Sign())) }

// sign returns the sign of x, for which that of top suffices.
func (x quotient) sign() int {
	sign := whole(x.field, x.top).decide(signOf)
	return sign.Sign()
}

// neighbours returns the numbers with at most so many bits next to x.
func (x quotient) neighbours(bits int) span {
	lo := x.decide(func(y exact.Num) exact.Num { return y.Down(bits) })
	hi := x.decide(func(y exact.Num) exact.Num { return y.Up(bits) })
	return span{lo, hi}
}
