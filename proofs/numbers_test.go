package proofs_test

import (
	"math/big"
	"slices"

	"vernier/api"
)

// This file has the numbers of the second making: those of math/big, formats of them,
// and intervals.

func toRat(text api.Rat) *big.Rat {
	x, ok := new(big.Rat).SetString(string(text))
	if !ok {
		panic("no number: " + string(text))
	}
	return x
}

func toText(x *big.Rat) api.Rat { return api.Rat(x.RatString()) }

func rat(a, b int64) *big.Rat { return big.NewRat(a, b) }

func plus(l ...*big.Rat) *big.Rat {
	out := new(big.Rat)
	for _, x := range l {
		out.Add(out, x)
	}
	return out
}

func times(l ...*big.Rat) *big.Rat {
	out := rat(1, 1)
	for _, x := range l {
		out.Mul(out, x)
	}
	return out
}

func less(x, y *big.Rat) *big.Rat { return new(big.Rat).Sub(x, y) }
func over(x, y *big.Rat) *big.Rat { return new(big.Rat).Quo(x, y) }
func minus(x *big.Rat) *big.Rat   { return new(big.Rat).Neg(x) }
func size(x *big.Rat) *big.Rat    { return new(big.Rat).Abs(x) }

func least(l ...*big.Rat) *big.Rat    { return slices.MinFunc(l, (*big.Rat).Cmp) }
func greatest(l ...*big.Rat) *big.Rat { return slices.MaxFunc(l, (*big.Rat).Cmp) }

func twoTo(k int) *big.Rat {
	x := new(big.Rat).SetInt(new(big.Int).Lsh(big.NewInt(1), uint(max(k, -k))))
	if k < 0 {
		x.Inv(x)
	}
	return x
}

// logOf returns the logarithm of the size of a number that is not 0, rounded down.
func logOf(x *big.Rat) int {
	k := x.Num().BitLen() - x.Denom().BitLen()
	if size(x).Cmp(twoTo(k)) < 0 {
		k--
	}
	return k
}

func floorOf(x *big.Rat) *big.Int {
	return new(big.Int).Div(x.Num(), x.Denom()) // Euclid's division: the rest is not below 0
}

// rootDown rounds the root of a number to 64 bits, rootUp likewise.
func rootDown(x *big.Rat) *big.Rat {
	if x.Sign() == 0 {
		return x
	}
	k := logOf(x)
	if k%2 != 0 {
		k--
	}
	step := twoTo(k/2 - 63)
	n := new(big.Int).Sqrt(floorOf(over(x, times(step, step))))
	return times(new(big.Rat).SetInt(n), step)
}

func rootUp(x *big.Rat) *big.Rat {
	y := rootDown(x)
	if times(y, y).Cmp(x) == 0 {
		return y
	}
	return plus(y, twoTo(logOf(y)-63))
}

func biasOf(f api.Format) int { return 1<<(f.E-1) - 1 }

func greatestOf(f api.Format) *big.Rat {
	return times(less(twoTo(f.P), rat(1, 1)), twoTo(biasOf(f)-f.P+1))
}

func leastOf(f api.Format) *big.Rat { return twoTo(2 - biasOf(f) - f.P) }

// stepAt returns the step of a format at a number.
func stepAt(f api.Format, x *big.Rat) *big.Rat {
	if size(x).Cmp(twoTo(1-biasOf(f))) < 0 {
		return leastOf(f)
	}
	return twoTo(logOf(x) - f.P + 1)
}

// roundTo rounds to the multiples of the step, as if there were no greatest value.
func roundTo(f api.Format, mode int, x *big.Rat) *big.Rat {
	u := stepAt(f, x)
	n := floorOf(over(x, u))
	low := times(new(big.Rat).SetInt(n), u)
	if low.Cmp(x) == 0 {
		return low
	}
	high := plus(low, u)
	order := less(x, low).Cmp(less(high, x))
	up := false
	switch mode {
	case api.RnEven:
		up = order > 0 || order == 0 && n.Bit(0) == 1
	case api.RnAway:
		up = order > 0 || order == 0 && x.Sign() > 0
	case api.RnTrunc:
		up = x.Sign() < 0
	case api.RnUp:
		up = true
	}
	if up {
		return high
	}
	return low
}

// isIn reports whether all values of f are values of g: those that decide it are.
func isIn(f, g api.Format) bool {
	fits := leastOf(f).Cmp(leastOf(g)) >= 0 && greatestOf(f).Cmp(greatestOf(g)) <= 0
	return fits && f.P <= g.P
}

// span is an interval.
type span struct{ lo, hi *big.Rat }

func zero() *big.Rat { return new(big.Rat) }

func point(x *big.Rat) span { return span{x, x} }

func toSpans(box []api.Span) []span {
	var out []span
	for _, s := range box {
		out = append(out, span{toRat(s.Lo), toRat(s.Hi)})
	}
	return out
}

func (a span) has(x *big.Rat) bool { return a.lo.Cmp(x) <= 0 && a.hi.Cmp(x) >= 0 }

func (a span) contains(b span) bool { return a.lo.Cmp(b.lo) <= 0 && b.hi.Cmp(a.hi) <= 0 }

func (a span) most() *big.Rat { return greatest(size(a.lo), size(a.hi)) }

func (a span) closest() *big.Rat {
	if a.has(zero()) {
		return zero()
	}
	return least(size(a.lo), size(a.hi))
}

func (a span) plus(b span) span { return span{plus(a.lo, b.lo), plus(a.hi, b.hi)} }

func (a span) negative() span { return span{minus(a.hi), minus(a.lo)} }

// corners returns the least interval with what an operation makes of the ends.
func corners(a, b span, of func(x, y *big.Rat) *big.Rat) span {
	all := []*big.Rat{of(a.lo, b.lo), of(a.lo, b.hi), of(a.hi, b.lo), of(a.hi, b.hi)}
	return span{least(all...), greatest(all...)}
}

func (a span) by(b span) span {
	return corners(a, b, func(x, y *big.Rat) *big.Rat { return times(x, y) })
}

func (a span) over(b span) span { return corners(a, b, over) }

func (a span) around(by *big.Rat) span { return span{less(a.lo, by), plus(a.hi, by)} }
