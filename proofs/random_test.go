package proofs_test

import (
	"math/rand"
	"slices"
	"testing"

	"vernier/api"
	"vernier/exact"
	"vernier/floats"
	"vernier/lang"
)

// maker makes random programs that are valid. Each of them has some operations that
// it prefers.
type maker struct {
	*rand.Rand
	p       api.Prog
	prefers []int
}

var (
	someFormats = []api.Format{{E: 11, P: 53}, {E: 8, P: 24}, {E: 5, P: 11}, {E: 4, P: 5}, {E: 3, P: 3}}
	smoothOps   = []int{api.OpNeg, api.OpCast, api.OpAdd, api.OpSub, api.OpMul, api.OpMul, api.OpFma, api.OpDiv, api.OpSqrt}
	allOps      = []int{api.OpNeg, api.OpAbs, api.OpSqrt, api.OpCast, api.OpAdd, api.OpSub, api.OpSub, api.OpMul, api.OpDiv, api.OpMin, api.OpMax, api.OpFma, api.OpSel, api.OpSel}
	ringOps     = []int{api.OpAdd, api.OpSub, api.OpSub, api.OpMul, api.OpMul, api.OpFma, api.OpNeg, api.OpCast}
	latticeOps  = []int{api.OpMin, api.OpMax, api.OpAbs, api.OpSel, api.OpSel, api.OpSub, api.OpSub, api.OpCast}
)

// bounds are values of all formats of someFormats.
var bounds = []api.Rat{"-2", "-3/2", "-1/2", "0", "1/4", "1/2", "3/4", "1", "3/2", "2", "3"}

// randomProgram returns a valid program, many of whose nodes are needed.
func randomProgram(t testing.TB, random *rand.Rand) api.Prog {
	t.Helper()
	m := &maker{Rand: random}
	m.prefers = [][]int{smoothOps, allOps, ringOps, latticeOps}[m.Intn(4)]
	m.p.Mode = m.Intn(5)
	for range 1 + m.Intn(3) {
		m.p.Formats = append(m.p.Formats, someFormats[min(m.Intn(len(someFormats)), m.Intn(len(someFormats)))])
	}
	for range min(m.Intn(4), 1+m.Intn(3)) {
		lo := max(m.Intn(len(bounds)), m.Intn(len(bounds)))
		hi := min(lo+m.Intn(len(bounds)-lo), lo+2)
		m.p.Inputs = append(m.p.Inputs, api.Input{Format: m.format(), Lo: bounds[lo], Hi: bounds[hi]})
	}
	m.section(1 + m.Intn(7))
	m.p.Head = len(m.p.Nodes)
	loops := m.Intn(2) == 0
	if loops {
		for range 1 + m.Intn(2) {
			m.p.States = append(m.p.States, api.State{Init: m.Intn(m.p.Head)})
		}
		m.section(m.Intn(5))
	}
	m.p.Tail = len(m.p.Nodes)
	if loops {
		m.section(m.Intn(4))
		m.nexts()
	}
	m.p.Result = m.p.Head - 1
	if m.p.Tail < len(m.p.Nodes) {
		m.p.Result = len(m.p.Nodes) - 1
	}
	if part, at, e := lang.Check(m.p); e != api.OK {
		t.Fatalf("part %d, %d has the error %d: %+v", part, at, e, m.p)
	}
	return m.p
}

func (m *maker) format() int { return m.Intn(len(m.p.Formats)) }

// section appends nodes of one section.
func (m *maker) section(count int) {
	from := len(m.p.Nodes)
	for range count {
		var sees []int
		for i := range m.p.Nodes {
			if i < m.p.Head || from == 0 || i >= from {
				sees = append(sees, i)
			}
		}
		m.p.Nodes = append(m.p.Nodes, m.node(sees))
	}
}

// node returns a node with operands among those that it sees, the later ones first.
func (m *maker) node(sees []int) api.Node {
	n := api.Node{Format: m.format()}
	kind := m.Intn(20)
	switch {
	case kind < 6 && len(m.p.Inputs) > 0:
		n.Op, n.A = api.OpInput, m.Intn(len(m.p.Inputs))
		n.Format = m.p.Inputs[n.A].Format
	case kind < 10 && len(m.p.States) > 0:
		n.Op, n.A = api.OpState, m.Intn(len(m.p.States))
		n.Format = m.p.Nodes[m.p.States[n.A].Init].Format
	case kind < 9 || len(sees) == 0:
		values := []api.Rat{"0", "1", "2", "-1", "3", "1/3", "-7/10", "1/50", "10", "1/200000", "100/7", "5/4", "70000"}
		n.Op, n.Value = api.OpConst, values[min(m.Intn(len(values)), m.Intn(len(values)))]
	default:
		n.Op = m.prefers[m.Intn(len(m.prefers))]
		for i := range operandsOf(n) {
			*[...]*int{&n.A, &n.B, &n.C, &n.D}[i] = sees[max(m.Intn(len(sees)), m.Intn(len(sees)))]
		}
	}
	return n
}

// nexts chooses a Next of the right format for each state.
func (m *maker) nexts() {
	for s, x := range m.p.States {
		m.p.States[s].Next = x.Init
		for range 5 {
			next := m.Intn(m.p.Tail)
			if m.p.Nodes[next].Format == m.p.Nodes[x.Init].Format {
				m.p.States[s].Next = max(next, m.p.States[s].Next)
			}
		}
	}
}

// randomInputs returns values in the box: those that numbers are rounded to, as the ends are
// values.
func randomInputs(t testing.TB, random *rand.Rand, p api.Prog) []api.Rat {
	t.Helper()
	var out []api.Rat
	for _, in := range p.Inputs {
		lo, hi := toRat(in.Lo), toRat(in.Hi)
		x := plus(lo, times(less(hi, lo), rat(random.Int63n(1<<random.Intn(12)+1), 1<<11)))
		y, e := floats.Near(p.Formats[in.Format], api.RnEven, number(t, toText(x)))
		if e != api.OK {
			t.Fatalf("Near: error %d", e)
		}
		out = append(out, y.Text())
	}
	return out
}

// prover makes random proofs, most of which are right.
type prover struct {
	*rand.Rand
	p             api.Prog
	nodes, states map[int]bool
	slack         bool // whether more is claimed than is tight
}

func newProver(random *rand.Rand, p api.Prog) *prover {
	nodes, states := neededIn(p)
	return &prover{random, p, nodes, states, random.Intn(2) == 0}
}

// prove returns a proof, and whether it should be right.
func (v *prover) prove() (q api.Proof, is bool) {
	items, is := v.tree(boxOf(v.p), v.Intn(3))
	q = api.Proof{Items: items}
	var whole said
	for _, x := range items {
		c, e := said{}, api.ErrNone
		if x.Kind == api.PfLeaf {
			c, e = readSaid(x.Claims[v.p.Result].Lo, x.Claims[v.p.Result].Hi, x.Claims[v.p.Result].Err)
		}
		switch {
		case e != api.OK:
		case whole.err == nil:
			whole = c
		default:
			whole = said{span{least(whole.lo, c.lo), greatest(whole.hi, c.hi)}, greatest(whole.err, c.err)}
		}
	}
	if whole.err == nil {
		whole = said{span{zero(), zero()}, zero()}
	}
	q.Lo, q.Hi, q.Err = toText(whole.lo), toText(whole.hi), toText(whole.err)
	return q, is
}

// tree returns the items for a box, with at most so many levels of splits.
func (v *prover) tree(box []api.Span, levels int) (items []api.PfItem, is bool) {
	if levels > 0 && len(box) > 0 && v.Intn(3) > 0 {
		i := v.Intn(len(box))
		lo, hi := toRat(box[i].Lo), toRat(box[i].Hi)
		if lo.Cmp(hi) < 0 {
			part := []int64{1, 2, 3, 5}[v.Intn(4)]
			at := toText(plus(lo, times(less(hi, lo), rat(part, 6))))
			lower, upper := slices.Clone(box), slices.Clone(box)
			lower[i].Hi, upper[i].Lo = at, at
			a, isA := v.tree(lower, levels-1)
			b, isB := v.tree(upper, levels-1)
			return slices.Concat([]api.PfItem{{Kind: api.PfSplit, Input: i, At: at}}, a, b), isA && isB
		}
	}
	l, is := v.leaf(box)
	return []api.PfItem{l}, is
}

// leaf returns claims over a box. It grows the claims of states until they are closed.
func (v *prover) leaf(box []api.Span) (l api.PfItem, is bool) {
	m := &model{v.p, toSpans(box), api.PfItem{Kind: api.PfLeaf, Claims: make([]api.PfClaim, len(v.p.Nodes)), States: make([]api.PfClaim, len(v.p.States))}}
	is = v.section(m, 0, v.p.Head)
	for s := range v.states {
		c := m.item.Claims[v.p.States[s].Init]
		m.item.States[s] = api.PfClaim{Lo: c.Lo, Hi: c.Hi, Err: c.Err}
	}
	closed := len(v.states) == 0
	for round := 0; round < 6 && is && !closed; round++ {
		is = v.section(m, v.p.Head, v.p.Tail)
		closed = true
		for s := range v.states {
			state, _ := readSaid(m.item.States[s].Lo, m.item.States[s].Hi, m.item.States[s].Err)
			next, wellFormed := m.claimOf(v.p.States[s].Next)
			if !is || !wellFormed || state.follows(next) {
				continue
			}
			closed = false
			by := rat(int64(1)<<(2*round)-1, 1)
			lo, hi, err := least(state.lo, next.lo), greatest(state.hi, next.hi), greatest(state.err, next.err)
			state.lo, state.hi, state.err = plus(lo, times(by, less(lo, state.lo))), plus(hi, times(by, less(hi, state.hi))), plus(err, times(by, less(err, state.err)))
			m.item.States[s] = write(state)
		}
	}
	if !closed {
		v.section(m, v.p.Head, v.p.Tail)
	}
	is = v.section(m, v.p.Tail, len(v.p.Nodes)) && is && closed
	return m.item, is
}

// section makes the claims of nodes from one on, and before another one. Where there is
// none that follows, it makes any.
func (v *prover) section(m *model, from, to int) bool {
	is := true
	for i := from; i < to; i++ {
		if v.nodes[i] && !v.claim(m, i) {
			is = false
		}
	}
	return is
}

// claim makes the claim of a node, by some rule that applies.
func (v *prover) claim(m *model, node int) bool {
	rules := []int{api.PfStep, api.PfStep, api.PfMean, api.PfSquares, api.PfStep}
	rule := rules[v.Intn(len(rules))]
	if m.p.Nodes[node].Op == api.OpSub && v.Intn(2) == 0 {
		rule = api.PfExact
	}
	for _, rule := range []int{rule, api.PfStep} {
		c := api.PfClaim{Rule: rule}
		if rule == api.PfSquares {
			c = v.squares(m, node)
		}
		m.item.Claims[node] = c
		s, e := m.tight(node)
		if e != api.OK {
			continue
		}
		w := write(said{v.loosen(span{least(s.lo, s.hi), greatest(s.lo, s.hi)}), s.err})
		if v.slack {
			w.Err = toText(times(s.err, rat(int64(16+v.Intn(3)), 16)))
		}
		c.Err = w.Err
		if len(c.Low) == 0 {
			c.Lo = w.Lo
		}
		if len(c.High) == 0 {
			c.Hi = w.Hi
		}
		m.item.Claims[node] = c
		return true
	}
	m.item.Claims[node] = api.PfClaim{Rule: api.PfStep, Lo: "0", Hi: "1", Err: "1/8"}
	return false
}

func (v *prover) loosen(a span) span {
	if !v.slack || v.Intn(2) == 0 {
		return a
	}
	return a.around(rat(int64(v.Intn(3)), 64))
}

func write(s said) api.PfClaim {
	return api.PfClaim{Lo: toText(s.lo), Hi: toText(s.hi), Err: toText(s.err)}
}

// squares returns a claim that begins or ends where squares prove it, if the node has a
// polynomial of degree 2 in one input.
func (v *prover) squares(m *model, node int) api.PfClaim {
	c := api.PfClaim{Rule: api.PfSquares}
	f, e := polyModel(m.p, node)
	if e != api.OK {
		return c
	}
	if v.Intn(4) > 0 {
		if end, squares, is := certify(m.box, f); is {
			c.Lo, c.Low = end, squares
		}
	}
	if v.Intn(4) > 0 {
		if end, squares, is := certify(m.box, poly{}.plus(f, -1)); is {
			c.Hi, c.High = toText(minus(toRat(end))), squares
		}
	}
	return c
}

// certify returns the least number of a polynomial in one input over a box, or one below
// it, and squares whose sum is the polynomial less this number.
func certify(box []span, f poly) (end api.Rat, squares []api.PfSquare, is bool) {
	input := 0
	var of [3]api.Rat
	for k := range f {
		for i, n := range powsOf(k) {
			if n > 0 {
				input = i
			}
		}
	}
	if len(box) == 0 {
		return "", nil, false
	}
	for n := range of {
		pows := make([]int, len(box))
		pows[input] = n
		of[n] = "0"
		if x := f[key(pows)]; x != nil {
			of[n] = toText(x)
			f = f.plus(poly{key(pows): x}, -1)
		}
	}
	if len(f) > 0 {
		return "", nil, false
	}
	c0, c1, c2 := toRat(of[0]), toRat(of[1]), toRat(of[2])
	lo, hi := box[input].lo, box[input].hi
	pows := func(n int) []int {
		out := make([]int, len(box))
		out[input] = n
		return out
	}
	// linear returns the polynomial x less a number.
	linear := func(at api.Rat) []api.PfTerm {
		return []api.PfTerm{{Coef: "1", Pows: pows(1)}, {Coef: toText(minus(toRat(at))), Pows: pows(0)}}
	}
	if c2.Sign() > 0 {
		at := over(c1, times(c2, rat(-2, 1)))
		return toText(less(c0, times(c2, at, at))), []api.PfSquare{{Coef: of[2], Input: -1, Poly: linear(toText(at))}}, true
	}
	if lo.Cmp(hi) == 0 {
		return "", nil, false
	}
	// What is left of f without its weighted part is linear.
	one := []api.PfTerm{{Coef: "1", Pows: pows(0)}}
	squares = append(squares, api.PfSquare{Coef: toText(minus(c2)), Input: input, Poly: one})
	c0, c1 = less(c0, times(c2, lo, hi)), plus(c1, times(c2, plus(lo, hi)))
	at, by := lo, c1
	if c1.Sign() < 0 {
		at, by = hi, minus(c1)
	}
	by = over(by, less(hi, lo))
	squares = append(squares, api.PfSquare{Coef: toText(by), Input: -1, Poly: linear(toText(at))}, api.PfSquare{Coef: toText(by), Input: input, Poly: one})
	return toText(plus(c0, times(c1, at))), squares, true
}

// spoil changes something in a proof, which is copied before.
func spoil(random *rand.Rand, p api.Prog, q api.Proof) api.Proof {
	q.Items = slices.Clone(q.Items)
	at := random.Intn(max(1, len(q.Items)))
	texts := []api.Rat{"", "0", "1", "-1", "3", "1/1000", "2/4", "x", "-5/3"}
	text := texts[random.Intn(len(texts))]
	kind := random.Intn(14)
	if len(q.Items) == 0 || kind == 0 {
		*[]*api.Rat{&q.Lo, &q.Hi, &q.Err}[random.Intn(3)] = text
		return q
	}
	item := &q.Items[at]
	item.Claims, item.States = slices.Clone(item.Claims), slices.Clone(item.States)
	list := item.Claims
	if random.Intn(4) == 0 {
		list = item.States
	}
	switch {
	case kind == 1:
		q.Items = slices.Delete(q.Items, at, at+1)
	case kind == 2:
		q.Items = slices.Insert(q.Items, at, q.Items[random.Intn(len(q.Items))])
	case kind == 3:
		*[]*int{&item.Kind, &item.Input}[random.Intn(2)] = random.Intn(5) - 1
	case kind == 4:
		item.At = text
	case kind == 5:
		item.Claims = append(item.Claims, api.PfClaim{})
	case kind == 6:
		item.States = append(item.States, api.PfClaim{})
	case len(list) == 0:
	default:
		spoilClaim(random, &list[random.Intn(len(list))], text)
	}
	return q
}

func spoilClaim(random *rand.Rand, c *api.PfClaim, text api.Rat) {
	switch random.Intn(6) {
	case 0:
		*[]*api.Rat{&c.Lo, &c.Hi, &c.Err}[random.Intn(3)] = text
	case 1:
		if c.Rule = random.Intn(7) - 1; c.Rule == api.PfSquares && random.Intn(2) == 0 {
			c.Low = []api.PfSquare{{Coef: "1", Input: -1 - random.Intn(2)}}
		}
	case 2:
		c.Low = append(slices.Clone(c.Low), api.PfSquare{Coef: "1", Input: -1})
	case 3:
		c.High = append(slices.Clone(c.High), api.PfSquare{Coef: text, Input: random.Intn(3) - 1})
	default: // a little less is claimed
		x := []*api.Rat{&c.Lo, &c.Hi, &c.Err}[random.Intn(3)]
		if exact.Check(*x) == api.OK {
			*x = toText(times(toRat(*x), rat(int64(90+random.Intn(20)), 100)))
		}
	}
}
