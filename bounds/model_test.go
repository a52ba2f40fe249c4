package bounds_test

import (
	"math/big"
	"slices"

	"vernier/api"
	"vernier/bounds"
	"vernier/lang"
	"vernier/proofs"
)

// This file has a second making of the derivation, in the numbers of math/big. Tight claims
// and polynomials of nodes are those of package proofs.

// said is what is claimed of a node or a state.
type said struct{ lo, hi, err *big.Rat }

func readSaid(c api.PfClaim) said { return said{toRat(c.Lo), toRat(c.Hi), toRat(c.Err)} }

func (c said) write(rule int) api.PfClaim {
	return api.PfClaim{Rule: rule, Lo: toText(c.lo), Hi: toText(c.hi), Err: toText(c.err)}
}

func (c said) isWithin(d said) bool {
	return c.lo.Cmp(d.lo) >= 0 && c.hi.Cmp(d.hi) <= 0 && c.err.Cmp(d.err) <= 0
}

func (c said) with(d said) said {
	return said{least(c.lo, d.lo), greatest(c.hi, d.hi), greatest(c.err, d.err)}
}

// outward rounds a claim, and tells whether it is too long then.
func (c said) outward(bits int) (out said, tooLong bool) {
	out = said{down(c.lo, bits), times(rat(-1, 1), down(times(rat(-1, 1), c.hi), bits)), times(rat(-1, 1), down(times(rat(-1, 1), c.err), bits))}
	for _, x := range []*big.Rat{out.lo, out.hi, out.err} {
		tooLong = tooLong || digitsOf(x) > 2000
	}
	return out, tooLong
}

func digitsOf(x *big.Rat) int {
	return max(len(new(big.Int).Abs(x.Num()).String()), len(x.Denom().String()))
}

// down returns the greatest number with so many bits that is not above x.
func down(x *big.Rat, bits int) *big.Rat {
	if x.Sign() == 0 {
		return x
	}
	size := new(big.Rat).Abs(x)
	log := size.Num().BitLen() - size.Denom().BitLen()
	for twoTo(log).Cmp(size) > 0 {
		log--
	}
	for twoTo(log+1).Cmp(size) <= 0 {
		log++
	}
	unit := twoTo(log - bits + 1)
	q := over(x, unit)
	floor := new(big.Int).Div(q.Num(), q.Denom()) // Euclidean, so down for a divisor above 0
	return times(new(big.Rat).SetInt(floor), unit)
}

func twoTo(k int) *big.Rat {
	x := new(big.Rat).SetInt(new(big.Int).Lsh(big.NewInt(1), uint(max(k, -k))))
	if k < 0 {
		return x.Inv(x)
	}
	return x
}

// certificateModel returns the certificate of a polynomial whose terms are valid, if it has
// one.
func certificateModel(l []api.PfTerm, box []api.Span) (lo, hi *big.Rat, low, high []api.PfSquare, e api.Errno) {
	input, degree := -1, 0
	for i := range box {
		most := 0
		for _, x := range l {
			most = max(most, x.Pows[i])
		}
		switch {
		case most > 0 && input >= 0:
			return nil, nil, nil, nil, api.ErrRange
		case most > 0:
			input, degree = i, most
		}
	}
	if input < 0 {
		return nil, nil, nil, nil, api.ErrRange
	}
	a, b := toRat(box[input].Lo), toRat(box[input].Hi)
	if a.Cmp(b) == 0 {
		return nil, nil, nil, nil, api.ErrZero
	}
	width := less(b, a)
	n := degree + degree%2
	// The coefficients of the powers of t, where x is a plus t times the width.
	powers := make([]*big.Rat, n+1)
	for i := range powers {
		powers[i] = new(big.Rat)
	}
	for _, x := range l {
		for i := range x.Pows[input] + 1 {
			part := times(times(toRat(x.Coef), binomial(x.Pows[input], i)), times(powerOf(width, i), powerOf(a, x.Pows[input]-i)))
			powers[i] = plus(powers[i], part)
		}
	}
	coefs := make([]*big.Rat, n+1)
	for k := range coefs {
		coefs[k] = new(big.Rat)
		for i := range k + 1 {
			coefs[k] = plus(coefs[k], times(over(binomial(k, i), binomial(n, i)), powers[i]))
		}
	}
	lo, hi = coefs[0], coefs[0]
	for _, c := range coefs {
		lo, hi = least(lo, c), greatest(hi, c)
	}
	tooLong := digitsOf(lo) > 2000 || digitsOf(hi) > 2000
	for k, c := range coefs {
		scale := over(binomial(n, k), powerOf(width, n))
		for _, side := range []struct {
			x    *big.Rat
			list *[]api.PfSquare
		}{{less(c, lo), &low}, {less(hi, c), &high}} {
			if side.x.Sign() == 0 {
				continue
			}
			coef := times(side.x, scale)
			s := api.PfSquare{Coef: toText(coef), Input: -1}
			if k%2 == 1 {
				s.Input = input
			}
			tooLong = tooLong || digitsOf(coef) > 2000
			for m, y := range rootOf(a, b, k/2, (n-k)/2) {
				if y.Sign() != 0 {
					pows := make([]int, len(box))
					pows[input] = m
					s.Poly = append(s.Poly, api.PfTerm{Coef: toText(y), Pows: pows})
					tooLong = tooLong || digitsOf(y) > 2000
				}
			}
			*side.list = append(*side.list, s)
		}
	}
	if tooLong {
		return nil, nil, nil, nil, api.ErrLong
	}
	return lo, hi, low, high, api.OK
}

// rootOf returns the coefficients of (x - a)^i (b - x)^j: those of both powers by the binomial
// theorem, each times each.
func rootOf(a, b *big.Rat, i, j int) []*big.Rat {
	out := make([]*big.Rat, i+j+1)
	for m := range out {
		out[m] = new(big.Rat)
	}
	for m := range i + 1 {
		for k := range j + 1 {
			x := times(binomial(i, m), powerOf(times(rat(-1, 1), a), i-m))
			y := times(times(binomial(j, k), powerOf(rat(-1, 1), k)), powerOf(b, j-k))
			out[m+k] = plus(out[m+k], times(x, y))
		}
	}
	return out
}

func binomial(n, k int) *big.Rat {
	return new(big.Rat).SetInt(new(big.Int).Binomial(int64(n), int64(k)))
}

func powerOf(x *big.Rat, n int) *big.Rat {
	out := rat(1, 1)
	for range n {
		out = times(out, x)
	}
	return out
}

// model derives claims over a box.
type model struct {
	p             api.Prog
	plan          api.BdPlan
	nodes, states []bool
	box           []api.Span
	item          api.PfItem
}

func newModel(p api.Prog, box []api.Span, plan api.BdPlan) *model {
	nodes, states, _ := lang.Needs(p)
	return &model{p, plan, nodes, states, box, api.PfItem{Kind: api.PfLeaf, Claims: make([]api.PfClaim, len(p.Nodes)), States: make([]api.PfClaim, len(p.States))}}
}

// option is a candidate, the width of its range, and its error.
type option struct {
	c          api.PfClaim
	err, width *big.Rat
}

// candidates returns all of a node, in order, and the error of PfStep.
func (m *model) candidates(node int) (out []option, e api.Errno) {
	item := m.item
	item.Claims = slices.Clone(item.Claims)
	add := func(c api.PfClaim) {
		item.Claims[node] = c
		lo, hi, err, e := proofs.Tight(m.p, m.box, item, node)
		if e != api.OK {
			return
		}
		t := said{toRat(lo.Text()), toRat(hi.Text()), toRat(err.Text())}
		r, tooLong := t.outward(m.plan.Bits)
		if tooLong {
			return
		}
		if len(c.Low) > 0 {
			r.lo = t.lo
		}
		if len(c.High) > 0 {
			r.hi = t.hi
		}
		w := r.write(c.Rule)
		w.Low, w.High = c.Low, c.High
		out = append(out, option{w, r.err, less(r.hi, r.lo)})
	}
	item.Claims[node] = api.PfClaim{Rule: api.PfStep}
	stepLo, stepHi, _, e := proofs.Tight(m.p, m.box, item, node)
	add(api.PfClaim{Rule: api.PfStep})
	if m.p.Nodes[node].Op == api.OpSub {
		add(api.PfClaim{Rule: api.PfExact})
	}
	if m.p.Nodes[node].Op < api.OpNeg {
		return out, e
	}
	if m.plan.Mean {
		add(api.PfClaim{Rule: api.PfMean})
	}
	f, polyE := proofs.Poly(m.p, node)
	if !m.plan.Squares || e != api.OK || polyE != api.OK {
		return out, e
	}
	lo, hi, low, high, certE := certificateModel(f, m.box)
	if certE != api.OK {
		return out, e
	}
	c := api.PfClaim{Rule: api.PfSquares}
	if lo.Cmp(toRat(stepLo.Text())) > 0 && len(low) > 0 {
		c.Lo, c.Low = toText(lo), low
	}
	if hi.Cmp(toRat(stepHi.Text())) < 0 && len(high) > 0 {
		c.Hi, c.High = toText(hi), high
	}
	if c.Lo != "" || c.Hi != "" {
		add(c)
	}
	return out, e
}

// best returns the best claim of a node.
func (m *model) best(node int) (api.PfClaim, api.Errno) {
	all, e := m.candidates(node)
	if len(all) == 0 {
		if e == api.OK {
			e = api.ErrLong
		}
		return api.PfClaim{}, e
	}
	first := slices.MinFunc(all, func(a, b option) int { // the first one of several
		if order := a.err.Cmp(b.err); order != 0 {
			return order
		}
		return a.width.Cmp(b.width)
	})
	return first.c, api.OK
}

// section makes the claims of a section.
func (m *model) section(from, to int) api.Errno {
	for i := from; i < to; i++ {
		if !m.nodes[i] {
			continue
		}
		c, e := m.best(i)
		if e != api.OK {
			return e
		}
		m.item.Claims[i] = c
	}
	return api.OK
}

func (m *model) eachState(do func(s int, init, next api.PfClaim)) {
	for s, x := range m.p.States {
		if m.states[s] {
			do(s, m.item.Claims[x.Init], m.item.Claims[x.Next])
		}
	}
}

func (m *model) closed() bool {
	is := true
	m.eachState(func(s int, _, next api.PfClaim) {
		is = is && readSaid(next).isWithin(readSaid(m.item.States[s]))
	})
	return is
}

// leafModel returns the claims over a box, and how often they grew and shrank.
func leafModel(p api.Prog, box []api.Span, plan api.BdPlan) (l api.PfItem, grew, shrank int, e api.Errno) {
	m := newModel(p, box, plan)
	if e := m.section(0, p.Head); e != api.OK {
		return api.PfItem{}, 0, 0, e
	}
	m.eachState(func(s int, init, _ api.PfClaim) { m.item.States[s] = readSaid(init).write(0) })
	for {
		if e := m.section(p.Head, p.Tail); e != api.OK {
			return api.PfItem{}, grew, 0, e
		}
		if m.closed() {
			break
		}
		if grew >= plan.Widen {
			return api.PfItem{}, grew, 0, bounds.ErrWiden
		}
		tooLong := false
		m.eachState(func(s int, _, next api.PfClaim) {
			was := readSaid(m.item.States[s])
			to := was.with(readSaid(next))
			by := twoTo(grew)
			c, is := said{
				less(to.lo, times(by, less(was.lo, to.lo))),
				plus(to.hi, times(by, less(to.hi, was.hi))),
				plus(to.err, times(by, less(to.err, was.err))),
			}.outward(plan.Bits)
			m.item.States[s], tooLong = c.write(0), tooLong || is
		})
		if tooLong {
			return api.PfItem{}, grew, 0, api.ErrLong
		}
		grew++
	}
	for shrank = 0; shrank < 3; shrank++ {
		claims, states := slices.Clone(m.item.Claims), slices.Clone(m.item.States)
		m.eachState(func(s int, init, next api.PfClaim) {
			m.item.States[s] = readSaid(init).with(readSaid(next)).write(0)
		})
		if dump(m.item.States) == dump(states) || m.section(p.Head, p.Tail) != api.OK || !m.closed() {
			m.item.Claims, m.item.States = claims, states
			break
		}
	}
	if e := m.section(p.Tail, len(p.Nodes)); e != api.OK {
		return api.PfItem{}, grew, shrank, e
	}
	return m.item, grew, shrank, api.OK
}

// node is a tree: a leaf, or a split with two halves.
type node struct {
	box    []api.Span
	l      api.PfItem
	e      api.Errno
	halves []*node
	input  int
	at     api.Rat
}

func newNode(p api.Prog, box []api.Span, plan api.BdPlan) *node {
	l, _, _, e := leafModel(p, box, plan)
	return &node{box: box, l: l, e: e}
}

// split splits a leaf in an input.
func (x *node) split(p api.Prog, plan api.BdPlan, input int, at api.Rat) {
	lower, upper := slices.Clone(x.box), slices.Clone(x.box)
	lower[input].Hi, upper[input].Lo = at, at
	x.input, x.at = input, at
	x.halves = []*node{newNode(p, lower, plan), newNode(p, upper, plan)}
}

func (x *node) leaves() []*node {
	if x.halves == nil {
		return []*node{x}
	}
	return slices.Concat(x.halves[0].leaves(), x.halves[1].leaves())
}

func (x *node) items() []api.PfItem {
	if x.halves == nil {
		return []api.PfItem{x.l}
	}
	return slices.Concat([]api.PfItem{{Kind: api.PfSplit, Input: x.input, At: x.at}}, x.halves[0].items(), x.halves[1].items())
}

// claim is the least one within which those of the result in all leaves are.
func (x *node) claim(p api.Prog) said {
	var out *said
	for _, l := range x.leaves() {
		c := readSaid(l.l.Claims[p.Result])
		if out != nil {
			c = c.with(*out)
		}
		out = &c
	}
	return *out
}

func deriveModel(p api.Prog, plan api.BdPlan) (api.Proof, api.Errno) {
	root := newNode(p, boxOf(p), plan)
	for range plan.Splits {
		var at *node
		for _, x := range root.leaves() {
			switch {
			case at != nil && at.e != api.OK:
			case x.e != api.OK, at == nil:
				at = x
			case toRat(x.l.Claims[p.Result].Err).Cmp(toRat(at.l.Claims[p.Result].Err)) > 0:
				at = x
			}
		}
		input, widest := -1, new(big.Rat)
		for i, s := range at.box {
			if width := less(toRat(s.Hi), toRat(s.Lo)); width.Cmp(widest) > 0 {
				input, widest = i, width
			}
		}
		if input < 0 {
			break
		}
		at.split(p, plan, input, toText(times(plus(toRat(at.box[input].Lo), toRat(at.box[input].Hi)), rat(1, 2))))
	}
	for _, x := range root.leaves() {
		if x.e != api.OK {
			return api.Proof{}, x.e
		}
	}
	c := root.claim(p).write(0)
	return api.Proof{Items: root.items(), Lo: c.Lo, Hi: c.Hi, Err: c.Err}, api.OK
}

// pruneModel prunes an accepted proof, from the leaves of its tree up to its root.
func pruneModel(p api.Prog, q api.Proof, plan api.BdPlan) api.Proof {
	root, _ := readNode(p, boxOf(p), q.Items)
	root.prune(p, plan)
	q.Items = root.items()
	return q
}

// readNode returns the tree at the beginning of items, and the items after it.
func readNode(p api.Prog, box []api.Span, items []api.PfItem) (*node, []api.PfItem) {
	x := &node{box: box, l: items[0]}
	rest := items[1:]
	if items[0].Kind == api.PfLeaf {
		return x, rest
	}
	x.input, x.at = items[0].Input, items[0].At
	lower, upper := slices.Clone(box), slices.Clone(box)
	lower[x.input].Hi, upper[x.input].Lo = x.at, x.at
	var a, b *node
	a, rest = readNode(p, lower, rest)
	b, rest = readNode(p, upper, rest)
	x.halves = []*node{a, b}
	return x, rest
}

func (x *node) prune(p api.Prog, plan api.BdPlan) {
	if x.halves == nil {
		return
	}
	x.halves[0].prune(p, plan)
	x.halves[1].prune(p, plan)
	if x.halves[0].halves != nil || x.halves[1].halves != nil {
		return
	}
	l, _, _, e := leafModel(p, x.box, plan)
	if e == api.OK && readSaid(l.Claims[p.Result]).isWithin(x.claim(p)) {
		x.l, x.halves = l, nil
	}
}
