package proofs

import (
	"cmp"
	"maps"
	"slices"

	"vernier/api"
	"vernier/exact"
	"vernier/lang"
)

// powers are the exponents of the inputs in a term; those of inputs that a program does
// not have are 0.
type powers [api.MaxInputs]uint8

// polynomial has the coefficients of terms, none of which is 0.
type polynomial map[powers]exact.Num

// total adds exponents up.
func total[N int | uint8](list []N) int {
	sum := 0
	for _, n := range list {
		sum += int(n)
	}
	return sum
}

// addTo adds a number to what a sum has in a place.
func addTo[K comparable](sum map[K]exact.Num, at K, x exact.Num) {
	x = x.Add(sum[at])
	if x.Sign() == 0 {
		delete(sum, at)
		return
	}
	sum[at] = x
}

// add adds another polynomial, times a number, to f.
func (f polynomial) add(g polynomial, by exact.Num) {
	for p, x := range g {
		addTo(f, p, x.Mul(by))
	}
}

// degree returns the greatest sum of the exponents of a term.
func (f polynomial) degree() int {
	most := 0
	for p := range f {
		most = max(most, total(p[:]))
	}
	return most
}

// isLarge reports whether a polynomial that is formed is too large. No sum has a greater
// degree than what is added; of a product the degree is looked at before.
func (f polynomial) isLarge() bool {
	for _, x := range f {
		if isHuge(x) {
			return true
		}
	}
	return len(f) > api.MaxTerms
}

// mul returns the product, if it is not too large.
func (f polynomial) mul(g polynomial) (h polynomial, is bool) {
	if f.degree()+g.degree() > api.MaxDegree {
		return nil, false
	}
	h = polynomial{}
	for p, x := range f {
		for q, y := range g {
			addTo(h, p.plus(q), x.Mul(y))
		}
	}
	return h, !h.isLarge()
}

func (p powers) plus(q powers) powers {
	for i, n := range q {
		p[i] += n
	}
	return p
}

// terms returns the terms of a polynomial in so many inputs, in their order.
func (f polynomial) terms(inputs int) []api.PfTerm {
	var out []api.PfTerm
	for _, p := range slices.SortedFunc(maps.Keys(f), comparePowers) {
		pows := make([]int, inputs)
		for i := range pows {
			pows[i] = int(p[i])
		}
		out = append(out, api.PfTerm{Coef: f[p].Text(), Pows: pows})
	}
	return out
}

func comparePowers(p, q powers) int {
	for i, n := range p {
		if order := cmp.Compare(n, q[i]); order != 0 {
			return order
		}
	}
	return 0
}

// formed is the polynomial of a node, or its error.
type formed struct {
	polynomial
	e api.Errno
}

// hasPolynomial reports whether an operation may be one of a node with a polynomial.
func hasPolynomial(op int) bool {
	switch op {
	case api.OpInput, api.OpConst, api.OpNeg, api.OpCast:
		return true
	case api.OpAdd, api.OpSub, api.OpMul, api.OpFma:
		return true
	}
	return false
}

// polynomialOf returns the polynomial of a node. It is not to be changed.
func (p *program) polynomialOf(node int) (polynomial, api.Errno) {
	if p.polynomials[node] == nil {
		f := &formed{e: ErrRule}
		if p.isMadeBy(node, hasPolynomial) {
			f = p.formPolynomial(node)
		}
		p.polynomials[node] = f
	}
	return p.polynomials[node].polynomial, p.polynomials[node].e
}

// formPolynomial forms the polynomial of a node that has one.
func (p *program) formPolynomial(node int) *formed {
	n := p.Nodes[node]
	var in [3]polynomial
	for i, k := range lang.Kids(n) {
		var e api.Errno
		if in[i], e = p.polynomialOf(k); e != api.OK {
			return &formed{e: e}
		}
	}
	f := polynomial{}
	switch n.Op {
	case api.OpInput:
		f = input(n.A)
	case api.OpConst:
		f.add(polynomial{powers{}: p.number(node)}, exact.Int(1))
	case api.OpNeg:
		f.add(in[0], exact.Int(-1))
	case api.OpCast:
		f = in[0]
	case api.OpAdd:
		f.add(in[0], exact.Int(1))
		f.add(in[1], exact.Int(1))
	case api.OpSub:
		f.add(in[0], exact.Int(1))
		f.add(in[1], exact.Int(-1))
	case api.OpMul, api.OpFma:
		var is bool
		if f, is = in[0].mul(in[1]); !is {
			return &formed{e: api.ErrLong}
		}
		f.add(in[2], exact.Int(1)) // nothing for OpMul
	}
	if f.isLarge() {
		return &formed{e: api.ErrLong}
	}
	return &formed{polynomial: f}
}

// input returns the polynomial of an input.
func input(i int) polynomial {
	var p powers
	p[i] = 1
	return polynomial{p: exact.Int(1)}
}
