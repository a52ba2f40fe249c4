package proofs_test

import (
	"fmt"
	"math/big"
	"slices"

	"vernier/api"
	"vernier/exact"
	"vernier/proofs"
)

// This file has a second making of the checker, in the numbers of math/big.

// said is what is claimed of a node.
type said struct {
	span
	err *big.Rat
}

func (c said) floats() span { return c.around(c.err) }

func (c said) follows(from said) bool {
	return c.contains(from.span) && c.err.Cmp(from.err) >= 0
}

// readSaid returns the error that Check has for a claim.
func readSaid(lo, hi, err api.Rat) (said, api.Errno) {
	for _, text := range []api.Rat{lo, hi, err} {
		if e := exact.Check(text); e != api.OK {
			return said{}, e
		}
	}
	c := said{span{toRat(lo), toRat(hi)}, toRat(err)}
	if c.lo.Cmp(c.hi) > 0 || c.err.Sign() < 0 {
		return said{}, proofs.ErrClaim
	}
	return c, api.OK
}

// operandsOf returns the operands of a node.
func operandsOf(n api.Node) []int {
	counts := map[int]int{
		api.OpNeg: 1, api.OpAbs: 1, api.OpSqrt: 1, api.OpCast: 1,
		api.OpAdd: 2, api.OpSub: 2, api.OpMul: 2, api.OpDiv: 2, api.OpMin: 2, api.OpMax: 2,
		api.OpFma: 3, api.OpSel: 4,
	}
	return []int{n.A, n.B, n.C, n.D}[:counts[n.Op]]
}

// dependsOn returns the nodes on which a node depends, in their order.
func dependsOn(p api.Prog, node int) []int {
	is := map[int]bool{node: true}
	for i := node; i >= 0; i-- {
		if is[i] {
			for _, k := range operandsOf(p.Nodes[i]) {
				is[k] = true
			}
		}
	}
	var out []int
	for i := range is {
		out = append(out, i)
	}
	slices.Sort(out)
	return out
}

// neededIn returns which nodes and states are needed.
func neededIn(p api.Prog) (nodes, states map[int]bool) {
	nodes, states = map[int]bool{p.Result: true}, map[int]bool{}
	for range len(p.Nodes) + len(p.States) { // often enough for all to be found
		for i := range p.Nodes {
			if !nodes[i] {
				continue
			}
			for _, k := range operandsOf(p.Nodes[i]) {
				nodes[k] = true
			}
			if n := p.Nodes[i]; n.Op == api.OpState {
				states[n.A] = true
				nodes[p.States[n.A].Init], nodes[p.States[n.A].Next] = true, true
			}
		}
	}
	return nodes, states
}

// model is a leaf.
type model struct {
	p    api.Prog
	box  []span
	item api.PfItem
}

func (m *model) format(node int) api.Format { return m.p.Formats[m.p.Nodes[node].Format] }

func (m *model) claimOf(node int) (said, bool) {
	c := m.item.Claims[node]
	s, e := readSaid(c.Lo, c.Hi, c.Err)
	return s, e == api.OK
}

// tight returns the tight claim of a needed node.
func (m *model) tight(node int) (said, api.Errno) {
	n, c := m.p.Nodes[node], m.item.Claims[node]
	var in []said
	for _, k := range operandsOf(n) {
		s, is := m.claimOf(k)
		if !is {
			return said{}, proofs.ErrClaim
		}
		in = append(in, s)
	}
	if n.Op == api.OpState {
		state := m.item.States[n.A]
		s, e := readSaid(state.Lo, state.Hi, state.Err)
		if e != api.OK {
			return said{}, proofs.ErrClaim
		}
		in = append(in, s)
	}
	if len(c.Low) > 20 || len(c.High) > 20 {
		return said{}, api.ErrLong
	}
	squared := len(c.Low)+len(c.High) > 0
	if c.Rule < 1 || c.Rule > 4 || squared && c.Rule != 4 {
		return said{}, proofs.ErrRule
	}
	s, is := m.step(node, in)
	if !is {
		return said{}, proofs.ErrFault
	}
	switch c.Rule {
	case api.PfExact:
		if n.Op != api.OpSub || !isIn(m.format(n.A), m.format(node)) || !isIn(m.format(n.B), m.format(node)) {
			return said{}, proofs.ErrRule
		}
		a, b := in[0].floats(), in[1].floats()
		two := rat(2, 1)
		if a.lo.Sign() <= 0 || b.lo.Sign() <= 0 || a.hi.Cmp(times(two, b.lo)) > 0 || b.hi.Cmp(times(two, a.lo)) > 0 {
			return said{}, proofs.ErrRule
		}
		return s, api.OK
	case api.PfMean:
		form, e := m.mean(node)
		if e != api.OK {
			return said{}, e
		}
		s.lo, s.hi = greatest(s.lo, form.lo), least(s.hi, form.hi)
	case api.PfSquares:
		var e api.Errno
		if s.span, e = m.bySquares(node, s.span); e != api.OK {
			return said{}, e
		}
	}
	rounding, is := m.rounding(node, plus(s.most(), s.err))
	if !is {
		return said{}, proofs.ErrFault
	}
	s.err = plus(s.err, rounding)
	return s, api.OK
}

func (m *model) bySquares(node int, r span) (span, api.Errno) {
	c := m.item.Claims[node]
	f, e := polyModel(m.p, node)
	if e != api.OK {
		return span{}, e
	}
	for _, side := range []struct {
		text    api.Rat
		squares []api.PfSquare
		sign    int64
		end     **big.Rat
	}{{c.Lo, c.Low, 1, &r.lo}, {c.Hi, c.High, -1, &r.hi}} {
		if len(side.squares) == 0 {
			continue
		}
		if e := exact.Check(side.text); e != api.OK {
			return span{}, e
		}
		g, e := squaresModel(m.box, side.squares)
		if e != api.OK {
			return span{}, e
		}
		*side.end = toRat(side.text)
		rest := f.plus(poly{"": *side.end}.in(len(m.box)), -1)
		if len(rest.plus(g, -side.sign)) > 0 {
			return span{}, proofs.ErrRule
		}
	}
	return r, api.OK
}

// step returns the step of a node by the claims of its operands.
func (m *model) step(node int, in []said) (s said, is bool) {
	n := m.p.Nodes[node]
	for len(in) < 4 {
		in = append(in, said{span{zero(), zero()}, zero()})
	}
	a, b, c, d := in[0], in[1], in[2], in[3]
	cross := plus(times(a.most(), b.err), times(b.most(), a.err))
	m1 := plus(cross, times(a.err, b.err))
	switch n.Op {
	case api.OpInput:
		return said{m.box[n.A], zero()}, true
	case api.OpConst:
		x := toRat(n.Value)
		rounded := roundTo(m.format(node), m.p.Mode, x)
		return said{point(x), size(less(x, rounded))}, size(rounded).Cmp(greatestOf(m.format(node))) <= 0
	case api.OpNeg:
		return said{a.negative(), a.err}, true
	case api.OpAbs:
		return said{span{a.closest(), a.most()}, a.err}, true
	case api.OpSqrt:
		if a.lo.Sign() < 0 || a.floats().lo.Sign() < 0 {
			return said{}, false
		}
		e := rootUp(a.err)
		if roots := plus(rootDown(a.lo), rootDown(a.floats().lo)); roots.Sign() > 0 {
			e = least(e, over(a.err, roots))
		}
		return said{span{rootDown(a.lo), rootUp(a.hi)}, e}, true
	case api.OpAdd:
		return said{a.plus(b.span), plus(a.err, b.err)}, true
	case api.OpSub:
		return said{a.plus(b.negative()), plus(a.err, b.err)}, true
	case api.OpMul:
		return said{a.by(b.span), m1}, true
	case api.OpFma:
		return said{a.by(b.span).plus(c.span), plus(m1, c.err)}, true
	case api.OpDiv:
		if b.has(zero()) || b.floats().has(zero()) {
			return said{}, false
		}
		return said{a.over(b.span), over(cross, times(b.closest(), b.floats().closest()))}, true
	case api.OpMin:
		return said{span{least(a.lo, b.lo), least(a.hi, b.hi)}, greatest(a.err, b.err)}, true
	case api.OpMax:
		return said{span{greatest(a.lo, b.lo), greatest(a.hi, b.hi)}, greatest(a.err, b.err)}, true
	case api.OpSel:
		return choose(a, b, c, d), true
	}
	return a, true // OpState, OpCast
}

func choose(a, b, c, d said) said {
	if a.hi.Cmp(b.lo) <= 0 && a.floats().hi.Cmp(b.floats().lo) <= 0 {
		return c
	}
	if a.lo.Cmp(b.hi) > 0 && a.floats().lo.Cmp(b.floats().hi) > 0 {
		return d
	}
	return said{span{least(c.lo, d.lo), greatest(c.hi, d.hi)}, greatest(
		c.err, d.err,
		less(c.floats().hi, d.lo), less(d.hi, c.floats().lo),
		less(d.floats().hi, c.lo), less(c.hi, d.floats().lo),
	)}
}

// rounding returns the rounding error of a node, if it is bounded.
func (m *model) rounding(node int, most *big.Rat) (*big.Rat, bool) {
	n := m.p.Nodes[node]
	values := map[int][]int{
		api.OpInput: {}, api.OpState: {}, api.OpConst: {},
		api.OpNeg: {n.A}, api.OpAbs: {n.A}, api.OpCast: {n.A},
		api.OpMin: {n.A, n.B}, api.OpMax: {n.A, n.B}, api.OpSel: {n.C, n.D},
	}
	if from, is := values[n.Op]; is {
		if !slices.ContainsFunc(from, func(k int) bool { return !isIn(m.format(k), m.format(node)) }) {
			return zero(), true
		}
	}
	return roundingModel(m.p.Mode, m.format(node), most)
}

func roundingModel(mode int, f api.Format, most *big.Rat) (*big.Rat, bool) {
	if most.Cmp(greatestOf(f)) > 0 {
		return nil, false
	}
	if most.Sign() == 0 {
		return zero(), true
	}
	if mode == api.RnEven || mode == api.RnAway {
		return over(stepAt(f, most), rat(2, 1)), true
	}
	return stepAt(f, most), true
}

// mean returns the mean value form of a node.
func (m *model) mean(node int) (span, api.Errno) {
	below := dependsOn(m.p, node)
	smooth := []int{api.OpInput, api.OpConst, api.OpNeg, api.OpCast, api.OpAdd, api.OpSub, api.OpMul, api.OpFma, api.OpDiv, api.OpSqrt}
	for _, i := range below {
		if !slices.Contains(smooth, m.p.Nodes[i].Op) {
			return span{}, proofs.ErrRule
		}
	}
	for _, i := range below[:len(below)-1] {
		if _, is := m.claimOf(i); !is {
			return span{}, proofs.ErrClaim
		}
	}
	middles, is := m.middlesOf(below)
	if !is {
		return span{}, proofs.ErrRule
	}
	extends := zero()
	for i, a := range m.box {
		slope, is := m.slopeOf(below, i)
		if !is {
			return span{}, proofs.ErrRule
		}
		extends = plus(extends, times(slope.most(), over(less(a.hi, a.lo), rat(2, 1))))
	}
	return middles[node].around(extends), api.OK
}

func (m *model) middlesOf(below []int) (map[int]span, bool) {
	out := map[int]span{}
	for _, i := range below {
		n := m.p.Nodes[i]
		a, b, c := out[n.A], out[n.B], out[n.C]
		switch n.Op {
		case api.OpInput:
			out[i] = point(over(plus(m.box[n.A].lo, m.box[n.A].hi), rat(2, 1)))
		case api.OpConst:
			out[i] = point(toRat(n.Value))
		case api.OpNeg:
			out[i] = a.negative()
		case api.OpCast:
			out[i] = a
		case api.OpAdd:
			out[i] = a.plus(b)
		case api.OpSub:
			out[i] = a.plus(b.negative())
		case api.OpMul:
			out[i] = a.by(b)
		case api.OpFma:
			out[i] = a.by(b).plus(c)
		case api.OpDiv:
			if b.has(zero()) {
				return nil, false
			}
			out[i] = a.over(b)
		case api.OpSqrt:
			if a.lo.Sign() < 0 {
				return nil, false
			}
			out[i] = span{rootDown(a.lo), rootUp(a.hi)}
		}
	}
	return out, true
}

func (m *model) slopeOf(below []int, input int) (span, bool) {
	out := map[int]span{}
	for _, i := range below {
		n := m.p.Nodes[i]
		da, db, dc := out[n.A], out[n.B], out[n.C]
		var a, b said
		if ks := operandsOf(n); len(ks) > 0 {
			a, _ = m.claimOf(n.A)
			if len(ks) > 1 {
				b, _ = m.claimOf(n.B)
			}
		}
		switch n.Op {
		case api.OpInput:
			out[i] = point(zero())
			if n.A == input {
				out[i] = point(rat(1, 1))
			}
		case api.OpConst:
			out[i] = point(zero())
		case api.OpNeg:
			out[i] = da.negative()
		case api.OpCast:
			out[i] = da
		case api.OpAdd:
			out[i] = da.plus(db)
		case api.OpSub:
			out[i] = da.plus(db.negative())
		case api.OpMul:
			out[i] = a.by(db).plus(b.by(da))
		case api.OpFma:
			out[i] = a.by(db).plus(b.by(da)).plus(dc)
		case api.OpDiv:
			if b.has(zero()) {
				return span{}, false
			}
			out[i] = b.by(da).plus(a.by(db).negative()).over(b.by(b.span))
		case api.OpSqrt:
			if a.lo.Sign() <= 0 {
				return span{}, false
			}
			r := span{rootDown(a.lo), rootUp(a.hi)}
			out[i] = da.over(r.plus(r))
		}
	}
	return out[below[len(below)-1]], true
}

// poly is a polynomial: coefficients by the exponents, written with blanks.
type poly map[string]*big.Rat

// in writes the exponents of a constant for so many inputs.
func (f poly) in(inputs int) poly { return poly{key(make([]int, inputs)): f[""]} }

func key(pows []int) string {
	out := ""
	for _, n := range pows {
		out += fmt.Sprintf("%02d ", n)
	}
	return out
}

func powsOf(key string) []int {
	var out []int
	for i := 0; i < len(key); i += 3 {
		out = append(out, int(key[i]-'0')*10+int(key[i+1]-'0'))
	}
	return out
}

// plus returns f plus g times a number, without coefficients 0.
func (f poly) plus(g poly, by int64) poly {
	out := poly{}
	for k, x := range f {
		out[k] = x
	}
	for k, x := range g {
		if out[k] == nil {
			out[k] = zero()
		}
		out[k] = plus(out[k], times(x, rat(by, 1)))
	}
	for k, x := range out {
		if x.Sign() == 0 {
			delete(out, k)
		}
	}
	return out
}

func (f poly) times(g poly) poly {
	sums := map[string][]*big.Rat{}
	for k, x := range f {
		for l, y := range g {
			pows := powsOf(k)
			for i, n := range powsOf(l) {
				pows[i] += n
			}
			sums[key(pows)] = append(sums[key(pows)], times(x, y))
		}
	}
	out := poly{}
	for k, l := range sums {
		out[k] = plus(l...)
	}
	return out.plus(nil, 1)
}

func (f poly) tooLarge() bool {
	for k := range f {
		sum := 0
		for _, n := range powsOf(k) {
			sum += n
		}
		if sum > 16 {
			return true
		}
	}
	return len(f) > 200
}

// text writes the terms as termsText does.
func (f poly) text() string {
	var keys []string
	for k := range f {
		keys = append(keys, k)
	}
	slices.Sort(keys)
	var l []api.PfTerm
	for _, k := range keys {
		l = append(l, api.PfTerm{Coef: toText(f[k]), Pows: powsOf(k)})
	}
	return termsText(l)
}

// polyModel returns the polynomial of a node.
func polyModel(p api.Prog, node int) (poly, api.Errno) {
	below := dependsOn(p, node)
	kinds := []int{api.OpInput, api.OpConst, api.OpNeg, api.OpCast, api.OpAdd, api.OpSub, api.OpMul, api.OpFma}
	for _, i := range below {
		if !slices.Contains(kinds, p.Nodes[i].Op) {
			return nil, proofs.ErrRule
		}
	}
	all := map[int]poly{}
	for _, i := range below {
		n := p.Nodes[i]
		a, b, c := all[n.A], all[n.B], all[n.C]
		var f poly
		switch n.Op {
		case api.OpInput:
			pows := make([]int, len(p.Inputs))
			pows[n.A] = 1
			f = poly{key(pows): rat(1, 1)}
		case api.OpConst:
			f = poly{"": toRat(n.Value)}.in(len(p.Inputs)).plus(nil, 1)
		case api.OpNeg:
			f = poly{}.plus(a, -1)
		case api.OpCast:
			f = a
		case api.OpAdd:
			f = a.plus(b, 1)
		case api.OpSub:
			f = a.plus(b, -1)
		case api.OpMul:
			f = a.times(b)
		case api.OpFma:
			f = a.times(b)
			if f.tooLarge() {
				return nil, api.ErrLong
			}
			f = f.plus(c, 1)
		}
		if f.tooLarge() {
			return nil, api.ErrLong
		}
		all[i] = f
	}
	return all[node], api.OK
}

// squaresModel returns the polynomial of squares in a box.
func squaresModel(box []span, l []api.PfSquare) (poly, api.Errno) {
	if len(l) > 20 || slices.ContainsFunc(l, func(s api.PfSquare) bool { return len(s.Poly) > 200 }) {
		return nil, api.ErrLong
	}
	var all []poly
	for _, s := range l {
		f, e := readSquareModel(len(box), s)
		if e != api.OK {
			return nil, e
		}
		all = append(all, f)
	}
	sum := poly{}
	for i, s := range l {
		f := all[i].times(all[i])
		if f.tooLarge() {
			return nil, api.ErrLong
		}
		if s.Input >= 0 { // - x^2 + (lo + hi) x - lo hi
			a := box[s.Input]
			one, two := make([]int, len(box)), make([]int, len(box))
			one[s.Input], two[s.Input] = 1, 2
			w := poly{key(two): rat(-1, 1), key(one): plus(a.lo, a.hi), key(make([]int, len(box))): minus(times(a.lo, a.hi))}
			if f = f.times(w.plus(nil, 1)); f.tooLarge() {
				return nil, api.ErrLong
			}
		}
		for k, x := range f {
			f[k] = times(x, toRat(s.Coef))
		}
		if sum = sum.plus(f, 1); sum.tooLarge() {
			return nil, api.ErrLong
		}
	}
	return sum, api.OK
}

func readSquareModel(inputs int, s api.PfSquare) (poly, api.Errno) {
	if e := exact.Check(s.Coef); e != api.OK {
		return nil, e
	}
	if toRat(s.Coef).Sign() < 0 || s.Input < -1 || s.Input >= inputs {
		return nil, api.ErrRange
	}
	f := poly{}
	for _, x := range s.Poly {
		if e := exact.Check(x.Coef); e != api.OK {
			return nil, e
		}
		sum := big.NewInt(0)
		for _, n := range x.Pows {
			if n < 0 || n > 16 {
				return nil, api.ErrRange
			}
			sum.Add(sum, big.NewInt(int64(n)))
		}
		if len(x.Pows) != inputs || sum.Cmp(big.NewInt(16)) > 0 {
			return nil, api.ErrRange
		}
		f = f.plus(poly{key(x.Pows): toRat(x.Coef)}, 1)
	}
	return f, api.OK
}
