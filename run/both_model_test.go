package run_test

import (
	"math/big"

	"vernier/api"
)

// runsModel has what is to be expected of both runs of a valid program.
type runsModel struct {
	p        api.Prog
	steps    int
	times    []modelTime
	floatEnd api.RnFault
	realEnd  api.RnFault
	list     listModel
	tooLarge bool
	at       int // the node of the list for the result
}

// modelTime is one time that a node is done. What a run does not do any more has no
// value.
type modelTime struct {
	node, step          int
	floatIn             []*big.Rat
	realIn              []surd
	float               *big.Rat
	real                *surd
	floatTook, realTook bool // OpSel: whether C is taken
}

// operandsModel returns the operands of a node.
func operandsModel(n api.Node) []int {
	counts := map[int]int{
		api.OpNeg: 1, api.OpAbs: 1, api.OpSqrt: 1, api.OpCast: 1,
		api.OpAdd: 2, api.OpSub: 2, api.OpMul: 2, api.OpDiv: 2, api.OpMin: 2, api.OpMax: 2,
		api.OpFma: 3, api.OpSel: 4,
	}
	return []int{n.A, n.B, n.C, n.D}[:counts[n.Op]]
}

// neededModel finds what is needed by adding to it until nothing is added.
func neededModel(p api.Prog) []bool {
	needed := map[int]bool{p.Result: true}
	for before := -1; before != len(needed); {
		before = len(needed)
		for i, n := range p.Nodes {
			if !needed[i] {
				continue
			}
			for _, k := range operandsModel(n) {
				needed[k] = true
			}
			if n.Op == api.OpState {
				needed[p.States[n.A].Init], needed[p.States[n.A].Next] = true, true
			}
		}
	}
	out := make([]bool, len(p.Nodes))
	for i := range out {
		out[i] = needed[i]
	}
	return out
}

// timesModel returns when nodes are done.
func timesModel(p api.Prog, steps int) []modelTime {
	needed := neededModel(p)
	var out []modelTime
	add := func(step int, from, to int) {
		for i := from; i < to; i++ {
			if needed[i] {
				out = append(out, modelTime{node: i, step: step})
			}
		}
	}
	add(0, 0, p.Head)
	for step := 1; step <= steps; step++ {
		add(step, p.Head, p.Tail)
	}
	add(steps+1, p.Tail, len(p.Nodes))
	return out
}

// source returns where a value is found at a time: that of a node is the value of
// this time itself, of a state the one that it has at the beginning of a step.
type source[V any] struct {
	p      api.Prog
	values map[[2]int]V // by node and step
}

func (s source[V]) node(i, step int) V {
	if i < s.p.Head {
		step = 0
	}
	return s.values[[2]int{i, step}]
}

// state returns what a state is at the beginning of a step, from the step before.
func (s source[V]) state(k, step int) V {
	if step == 1 {
		return s.node(s.p.States[k].Init, 0)
	}
	return s.node(s.p.States[k].Next, step-1)
}

// runModel does both runs.
func runModel(p api.Prog, in []api.Rat, steps int) *runsModel {
	m := &runsModel{p: p, steps: steps, times: timesModel(p, steps)}
	m.runFloat(in)
	m.runReal(in)
	return m
}

func (m *runsModel) runFloat(in []api.Rat) {
	s := source[*big.Rat]{m.p, map[[2]int]*big.Rat{}}
	for i := range m.times {
		t := &m.times[i]
		n := m.p.Nodes[t.node]
		op := n.Op
		switch op {
		case api.OpInput:
			t.floatIn, op = []*big.Rat{toRat(in[n.A])}, api.OpCast
		case api.OpState:
			t.floatIn, op = []*big.Rat{s.state(n.A, t.step)}, api.OpCast
		case api.OpConst:
			t.floatIn, op = []*big.Rat{toRat(n.Value)}, api.OpCast
		}
		for _, k := range operandsModel(n) {
			t.floatIn = append(t.floatIn, s.node(k, t.step))
		}
		x, fault := operateModel(m.p.Formats[n.Format], m.p.Mode, op, t.floatIn)
		if fault != 0 {
			m.floatEnd = api.RnFault{Kind: fault, Node: t.node, Step: t.step}
			return
		}
		t.floatTook = op == api.OpSel && t.floatIn[0].Cmp(t.floatIn[1]) <= 0
		t.float = x
		s.values[[2]int{t.node, t.step}] = x
	}
}

func (m *runsModel) runReal(in []api.Rat) {
	s := source[surd]{m.p, map[[2]int]surd{}}
	for i := range m.times {
		t := &m.times[i]
		n := m.p.Nodes[t.node]
		for _, k := range operandsModel(n) {
			t.realIn = append(t.realIn, s.node(k, t.step))
		}
		var x surd
		var fault int
		switch n.Op {
		case api.OpInput:
			x = plainSurd(toRat(in[n.A]))
		case api.OpConst:
			x = plainSurd(toRat(n.Value))
		case api.OpState:
			x = s.state(n.A, t.step)
		case api.OpCast:
			x = t.realIn[0]
		case api.OpSel:
			if m.selectsTooLarge(t.realIn[0], t.realIn[1]) || m.selectsTooLarge(t.realIn[1], t.realIn[0]) {
				m.tooLarge = true
				return
			}
			t.realTook = t.realIn[0].compare(t.realIn[1]) <= 0
			x = t.realIn[3]
			if t.realTook {
				x = t.realIn[2]
			}
		default:
			x, fault = m.list.apply(n.Op, t.realIn)
		}
		if fault != 0 {
			m.realEnd = api.RnFault{Kind: fault, Node: t.node, Step: t.step}
			return
		}
		t.real = &x
		s.values[[2]int{t.node, t.step}] = x
		if m.list.isLarge() || x.plain != nil && digitsOf(x.plain) > 2000 {
			m.tooLarge = true
			return
		}
	}
	result := *m.times[len(m.times)-1].real
	m.at = result.node
	if result.plain != nil {
		m.at = m.list.number(result.plain)
	}
	m.tooLarge = len(m.list.nodes) > 200
}

func (m *runsModel) selectsTooLarge(x, y surd) bool {
	return x.plain == nil && y.plain != nil && digitsOf(y.plain) > 800
}

// events returns the events of the runs.
func (m *runsModel) events() []api.RnEvent {
	var out []api.RnEvent
	for _, t := range m.times {
		if t.float == nil || t.real == nil {
			break
		}
		n := m.p.Nodes[t.node]
		note := func(is bool, kind, bits int) {
			if is {
				out = append(out, api.RnEvent{Kind: kind, Node: t.node, Step: t.step, Bits: bits})
			}
		}
		sum := n.Op == api.OpAdd || n.Op == api.OpSub
		bits, is := m.cancels(t, n)
		note(sum && is, api.RnCancel, bits)
		note(m.underflows(t, n), api.RnUnderflow, 0)
		note(sum && absorbs(t, n), api.RnAbsorb, 0)
		note(n.Op == api.OpSel && t.floatTook != t.realTook, api.RnDiverge, 0)
	}
	return out
}

func (m *runsModel) cancels(t modelTime, n api.Node) (int, bool) {
	if len(t.floatIn) != 2 || t.floatIn[0].Sign() == 0 || t.floatIn[1].Sign() == 0 {
		return 0, false
	}
	differs := false
	for i, x := range t.floatIn {
		differs = differs || t.realIn[i].compare(plainSurd(x)) != 0
	}
	bits := m.p.Formats[n.Format].P
	if t.float.Sign() != 0 {
		bits = max(logOf(t.floatIn[0]), logOf(t.floatIn[1])) - logOf(t.float)
	}
	return bits, differs && bits >= 2
}

func (m *runsModel) underflows(t modelTime, n api.Node) bool {
	normal := normalOf(m.p.Formats[n.Format])
	if n.Op == api.OpSqrt {
		x, y := new(big.Float).SetPrec(modelBits).SetRat(t.floatIn[0]), new(big.Float).SetPrec(modelBits).SetRat(t.float)
		x.Sqrt(x)
		below := x.Cmp(new(big.Float).SetPrec(modelBits).SetRat(normal)) < 0
		return x.Sign() != 0 && below && signOf(x.Sub(x, y)) != 0
	}
	x := t.floatIn[0]
	if n.Op >= api.OpNeg {
		x, _ = rational(n.Op, t.floatIn)
	}
	return x.Sign() != 0 && new(big.Rat).Abs(x).Cmp(normal) < 0 && x.Cmp(t.float) != 0
}

func absorbs(t modelTime, n api.Node) bool {
	a, b := t.floatIn[0], t.floatIn[1]
	first := t.float.Cmp(a) == 0 && b.Sign() != 0
	if n.Op == api.OpSub {
		b = new(big.Rat).Neg(b)
	}
	return first || t.float.Cmp(b) == 0 && a.Sign() != 0
}
