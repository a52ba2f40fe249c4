package bounds

import (
	"vernier/api"
	"vernier/exact"
	"vernier/ranges"
)

// Certificate returns the range of a polynomial in one input, and squares that prove it.
func Certificate(l []api.PfTerm, box []api.Span) (lo, hi exact.Num, low, high []api.PfSquare, e api.Errno) {
	degrees, coefs, e := ranges.Coefs(l, box)
	if e != api.OK {
		return exact.Num{}, exact.Num{}, nil, nil, e
	}
	input, is := oneInput(degrees)
	if !is {
		return exact.Num{}, exact.Num{}, nil, nil, api.ErrRange
	}
	f := &certified{input: input, inputs: len(box)}
	f.a, _ = exact.Parse(box[input].Lo)
	f.b, _ = exact.Parse(box[input].Hi)
	if f.a.Cmp(f.b) == 0 {
		return exact.Num{}, exact.Num{}, nil, nil, api.ErrZero
	}
	f.coefs = evenly(coefs)
	lo, hi = f.ends()
	f.isLong = isLong(lo) || isLong(hi)
	low = f.squares(func(c exact.Num) exact.Num { return c.Sub(lo) })
	high = f.squares(func(c exact.Num) exact.Num { return hi.Sub(c) })
	if f.isLong {
		return exact.Num{}, exact.Num{}, nil, nil, api.ErrLong
	}
	return lo, hi, low, high, api.OK
}

// oneInput returns the input on which a polynomial depends, if it is one alone.
func oneInput(degrees []int) (input int, is bool) {
	for i, n := range degrees {
		if n > 0 && is {
			return 0, false
		}
		if n > 0 {
			input, is = i, true
		}
	}
	return input, is
}

// evenly returns Bernstein coefficients of the same polynomial for an even degree: only then
// does each of them belong to a square, or to one that is weighted.
func evenly(coefs []exact.Num) []exact.Num {
	n := len(coefs) // the degree plus 1
	if n%2 == 1 {
		return coefs
	}
	out := make([]exact.Num, n+1)
	for k, c := range coefs {
		before, _ := exact.Ratio(int64(n-k), int64(n))
		after, _ := exact.Ratio(int64(k+1), int64(n))
		out[k] = out[k].Add(before.Mul(c))
		out[k+1] = after.Mul(c)
	}
	return out
}

// certified is a polynomial in one of some inputs, from a to b, told by Bernstein
// coefficients of an even degree.
type certified struct {
	input, inputs int
	a, b          exact.Num
	coefs         []exact.Num
	isLong        bool // whether a number of the certificate is too long
}

// ends returns the least coefficient and the greatest one.
func (f *certified) ends() (lo, hi exact.Num) {
	lo, hi = f.coefs[0], f.coefs[0]
	for _, c := range f.coefs {
		lo, hi = lo.Min(c), hi.Max(c)
	}
	return lo, hi
}

// squares returns those of the polynomial that has other coefficients, which are not below
// 0. Where a number is too long it does no more, as there is no certificate.
func (f *certified) squares(other func(exact.Num) exact.Num) []api.PfSquare {
	n := len(f.coefs) - 1
	scale, _ := f.b.Sub(f.a).Power(-n)
	var out []api.PfSquare
	for k, c := range f.coefs {
		if f.isLong {
			return nil
		}
		x := other(c)
		if x.Sign() == 0 {
			continue
		}
		x = x.Mul(exact.Int(choices(n, k))).Mul(scale)
		s := api.PfSquare{Coef: f.text(x), Input: -1}
		if k%2 == 1 {
			s.Input = f.input
		}
		s.Poly = f.terms(f.root(k/2, (n-k)/2))
		out = append(out, s)
	}
	return out
}

// root returns the coefficients of (x - a)^lower (b - x)^upper by the exponents of x.
func (f *certified) root(lower, upper int) []exact.Num {
	out := []exact.Num{exact.Int(1)}
	for range lower {
		out = times(out, f.a.Neg(), exact.Int(1))
	}
	for range upper {
		out = times(out, f.b, exact.Int(-1))
	}
	return out
}

// times returns the product of a polynomial and a linear one.
func times(poly []exact.Num, constant, linear exact.Num) []exact.Num {
	out := make([]exact.Num, len(poly)+1)
	for i, c := range poly {
		out[i] = out[i].Add(c.Mul(constant))
		out[i+1] = c.Mul(linear)
	}
	return out
}

// choices returns how many choices of k out of n there are.
func choices(n, k int) int64 {
	out := int64(1)
	for i := range k {
		out = out * int64(n-i) / int64(i+1)
	}
	return out
}

func (f *certified) terms(poly []exact.Num) []api.PfTerm {
	var out []api.PfTerm
	for n, c := range poly {
		if c.Sign() == 0 {
			continue
		}
		pows := make([]int, f.inputs)
		pows[f.input] = n
		out = append(out, api.PfTerm{Coef: f.text(c), Pows: pows})
	}
	return out
}

// text returns the text of a number, and finds out whether it is too long.
func (f *certified) text(x exact.Num) api.Rat {
	f.isLong = f.isLong || isLong(x)
	return x.Text()
}
