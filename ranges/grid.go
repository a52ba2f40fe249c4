package ranges

import (
	"vernier/api"
	"vernier/exact"
)

// grid has a number for each choice of exponents up to the degrees of its axes, the
// last one changing fastest. It works with integers: sums of integers need no common
// divisors. What they have to be divided by is told by the axes, and by divisors.
type grid struct {
	axes     []axis
	numbers  []exact.Num
	divisors []exact.Num
}

// axis is an input of a grid: its degree, how far apart in the list its neighbouring
// choices are, and the ends of its span.
type axis struct {
	degree, stride int
	lo, hi         fraction
}

// fraction is a number by its numerator and its denominator.
type fraction struct{ top, bottom exact.Num }

func fractionOf(x exact.Num) fraction {
	top, bottom := x.Parts()
	return fraction{top, bottom}
}

// newGrid returns the grid of the polynomial 0 with these degrees, which has so many
// numbers.
func newGrid(box []Interval, degrees []int, count int) *grid {
	g := &grid{make([]axis, len(box)), make([]exact.Num, count), nil}
	stride := count
	for i, a := range box {
		stride /= degrees[i] + 1
		g.axes[i] = axis{degrees[i], stride, fractionOf(a.lo), fractionOf(a.hi)}
	}
	return g
}

// put adds terms with these coefficients.
func (g *grid) put(l []api.PfTerm, coefs []exact.Num) {
	unit := exact.Int(1) // its products with all coefficients are integers
	for _, x := range coefs {
		if _, missing := x.Mul(unit).Parts(); missing.Cmp(exact.Int(1)) != 0 {
			unit = unit.Mul(missing)
			g.divisors = append(g.divisors, missing)
		}
	}
	for i, term := range l {
		at := 0
		for k, n := range term.Pows {
			at += n * g.axes[k].stride
		}
		g.numbers[at] = g.numbers[at].Add(coefs[i].Mul(unit))
	}
}

// toBernstein makes Bernstein coefficients of the coefficients of a polynomial, input
// by input.
func (g *grid) toBernstein() {
	for _, x := range g.axes {
		g.changeLines(x, x.lineChange())
	}
	for at, n := range g.numbers {
		g.numbers[at] = g.divided(n, at)
	}
}

// changeLines changes all lines of numbers that differ in one exponent alone.
func (g *grid) changeLines(x axis, change func(line []exact.Num) []exact.Num) {
	line := make([]exact.Num, x.degree+1)
	for from := range g.numbers {
		if x.choice(from) != 0 {
			continue
		}
		for k := range line {
			line[k] = g.numbers[from+k*x.stride]
		}
		for k, n := range change(line) {
			g.numbers[from+k*x.stride] = n
		}
	}
}

// divided returns a number of the list, divided by what it has to be. That is done
// factor by factor: the common divisors of a long number with short ones are found
// sooner than those with their product.
func (g *grid) divided(n exact.Num, at int) exact.Num {
	for _, x := range g.axes {
		k := x.choice(at)
		for range x.degree - k {
			n, _ = n.Quo(x.lo.bottom)
		}
		for range k {
			n, _ = n.Quo(x.hi.bottom)
		}
		n, _ = n.Quo(factorial(x.degree))
	}
	for _, d := range g.divisors {
		n, _ = n.Quo(d)
	}
	return n
}

// choice returns the number of the choice on this axis, at a place in the list.
func (x axis) choice(at int) int { return at / x.stride % (x.degree + 1) }

// lineChange returns what makes, of the coefficients of a polynomial in this input
// alone, its Bernstein coefficients, each times what it has to be divided by.
//
// A polynomial of the degree n has a polar form, which is linear in each of its n
// arguments, symmetric, and the polynomial if all of them are the same. Its value is
// the k-th Bernstein coefficient, if k of them are the upper end and the others the
// lower one.
func (x axis) lineChange() func(line []exact.Num) []exact.Num {
	var scales []exact.Num
	for d := range x.degree + 1 {
		scales = append(scales, factorial(d).Mul(factorial(x.degree-d)))
	}
	return func(line []exact.Num) []exact.Num {
		out := make([]exact.Num, len(line))
		polar := pairs(line, scales, exact.Num.Mul)
		for k := x.degree; k >= 0; k-- {
			rest := polar
			for range k {
				rest = x.hi.putInto(rest)
			}
			out[k] = rest[0]
			polar = x.lo.putInto(polar)
		}
		return out
	}
}

// putInto returns a polar form with this number as one of its arguments, times the
// denominator.
func (x fraction) putInto(polar []exact.Num) []exact.Num {
	return pairs(polar[1:], polar, func(next, this exact.Num) exact.Num {
		return next.Mul(x.top).Add(this.Mul(x.bottom))
	})
}

// factorial returns the product of the integers from 1 to n, which is at most 16.
func factorial(n int) exact.Num {
	product := int64(1)
	for k := range n {
		product *= int64(k + 1)
	}
	return exact.Int(product)
}
