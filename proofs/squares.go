package proofs

import (
	"vernier/api"
	"vernier/exact"
)

// square is a square that has been read.
type square struct {
	coef  exact.Num
	input int
	poly  polynomial
}

// sumOfSquares returns the polynomial of squares in a box.
func sumOfSquares(l []api.PfSquare, over []interval) (polynomial, api.Errno) {
	squares, e := readSquares(l, len(over))
	if e != api.OK {
		return nil, e
	}
	sum := polynomial{}
	for _, s := range squares {
		weighted, is := s.weigh(over)
		if !is {
			return nil, api.ErrLong
		}
		sum.add(weighted, s.coef)
		if sum.isLarge() {
			return nil, api.ErrLong
		}
	}
	return sum, api.OK
}

// weigh returns the square times its weight, if nothing of this is too large.
func (s square) weigh(over []interval) (f polynomial, is bool) {
	f, is = s.poly.mul(s.poly)
	if !is || s.input < 0 {
		return f, is
	}
	a, x := over[s.input], input(s.input)
	lower, upper := polynomial{}, polynomial{}
	lower.add(x, exact.Int(1))
	addTo(lower, powers{}, a.lo.Neg())
	upper.add(x, exact.Int(-1))
	addTo(upper, powers{}, a.hi)
	weight, _ := lower.mul(upper)
	return f.mul(weight)
}

// readSquares reads squares in so many inputs.
func readSquares(l []api.PfSquare, inputs int) ([]square, api.Errno) {
	if len(l) > api.MaxSquares {
		return nil, api.ErrLong
	}
	for _, s := range l {
		if len(s.Poly) > api.MaxTerms {
			return nil, api.ErrLong
		}
	}
	out := make([]square, len(l))
	for i, s := range l {
		var e api.Errno
		if out[i], e = readSquare(s, inputs); e != api.OK {
			return nil, e
		}
	}
	return out, api.OK
}

func readSquare(s api.PfSquare, inputs int) (square, api.Errno) {
	coef, e := exact.Parse(s.Coef)
	switch {
	case e != api.OK:
		return square{}, e
	case coef.Sign() < 0 || s.Input < -1 || s.Input >= inputs:
		return square{}, api.ErrRange
	}
	f := polynomial{}
	for _, term := range s.Poly {
		x, e := exact.Parse(term.Coef)
		if e != api.OK {
			return square{}, e
		}
		p, is := readPowers(term.Pows, inputs)
		if !is {
			return square{}, api.ErrRange
		}
		addTo(f, p, x)
	}
	return square{coef, s.Input, f}, api.OK
}

// readPowers reads the exponents of a term, if it may have them.
func readPowers(pows []int, inputs int) (p powers, is bool) {
	if len(pows) != inputs {
		return powers{}, false
	}
	for i, n := range pows {
		if n < 0 || n > api.MaxDegree {
			return powers{}, false
		}
		p[i] = uint8(n)
	}
	return p, total(pows) <= api.MaxDegree
}
