package ranges

import (
	"vernier/api"
	"vernier/exact"
)

// At returns the value of a polynomial.
func At(l []api.PfTerm, x []exact.Num) (exact.Num, api.Errno) {
	coefs, e := readTerms(l, len(x))
	if e != api.OK {
		return exact.Num{}, e
	}
	var sum exact.Num
	for i, term := range l {
		product := coefs[i]
		for k, n := range term.Pows {
			power, _ := x[k].Power(n)
			product = product.Mul(power)
		}
		sum = sum.Add(product)
	}
	return sum, api.OK
}

// readTerms returns the coefficients of the terms of a polynomial in so many inputs.
func readTerms(l []api.PfTerm, inputs int) ([]exact.Num, api.Errno) {
	if len(l) > api.MaxTerms {
		return nil, api.ErrLong
	}
	coefs := make([]exact.Num, len(l))
	for i, term := range l {
		var e api.Errno
		if coefs[i], e = exact.Parse(term.Coef); e != api.OK {
			return nil, e
		}
		if len(term.Pows) != inputs || !areExponents(term.Pows) {
			return nil, api.ErrRange
		}
	}
	return coefs, api.OK
}

// areExponents reports whether a term may have these exponents.
func areExponents(pows []int) bool {
	left := api.MaxDegree
	for _, n := range pows {
		if n < 0 || n > left {
			return false
		}
		left -= n
	}
	return true
}

// Coefs returns the Bernstein coefficients of a polynomial.
func Coefs(l []api.PfTerm, box []api.Span) (degrees []int, coefs []exact.Num, e api.Errno) {
	over, e := readBox(box)
	if e != api.OK {
		return nil, nil, e
	}
	numbers, e := readTerms(l, len(box))
	if e != api.OK {
		return nil, nil, e
	}
	degrees = make([]int, len(box))
	for _, term := range l {
		for i, n := range term.Pows {
			degrees[i] = max(degrees[i], n)
		}
	}
	count := 1
	for _, n := range degrees {
		if count *= n + 1; count > api.MaxRgCoefs {
			return nil, nil, api.ErrLong
		}
	}
	g := newGrid(over, degrees, count)
	g.put(l, numbers)
	g.toBernstein()
	return degrees, g.numbers, api.OK
}

// Bernstein returns the range of a polynomial by its Bernstein coefficients.
func Bernstein(l []api.PfTerm, box []api.Span) (Interval, api.Errno) {
	_, coefs, e := Coefs(l, box)
	if e != api.OK {
		return Interval{}, e
	}
	a := only(coefs[0])
	for _, x := range coefs {
		a = a.Join(only(x))
	}
	return a, api.OK
}
