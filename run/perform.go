package run

import (
	"vernier/api"
	"vernier/exact"
	"vernier/lang"
)

// tooLarge ends a real run as a fault does, but it is no kind of a fault.
const tooLarge = -1

// arithmetic is what runs do with values. What ends a run is told by stop: it is the
// kind of a fault, or tooLarge, or 0.
type arithmetic[V any] interface {
	// exactly returns a number that is not rounded.
	exactly(x exact.Num) V
	atMost(a, b V) (is bool, stop int)
	// apply does an operation that is not OpSel. OpInput, OpState and OpConst are
	// done as OpCast is, with the value that they are told.
	apply(op, format int, in []V) (x V, stop int)
}

// done is what became of a node when it was done.
type done[V any] struct {
	place
	in     []V // the values of the operands, or the one that the node was told
	value  V
	takesC bool // of OpSel
}

// trace is what a run has done before its fault, if it has one.
type trace[V any] struct {
	all   []done[V]
	fault api.RnFault
}

func (t trace[V]) fails() bool { return t.fault.Kind != 0 }

// result returns the value of a run without a fault. The Result is done last, as
// nothing that comes after it is needed.
func (t trace[V]) result() V { return t.all[len(t.all)-1].value }

// perform does a run.
func perform[V any](p *plan, m arithmetic[V]) trace[V] {
	var t trace[V]
	values := make([]V, len(p.Nodes))
	states := make([]V, len(p.States))
	step := 0
	for at := range p.order() {
		if at.step > step {
			step = at.step
			for s, x := range p.States {
				states[s] = values[stateNode(x, step)]
			}
		}
		n := p.Nodes[at.node]
		d := done[V]{place: at}
		switch n.Op {
		case api.OpInput, api.OpConst:
			d.in = []V{m.exactly(p.numbers[at.node])}
		case api.OpState:
			d.in = []V{states[n.A]}
		default:
			for _, k := range lang.Kids(n) {
				d.in = append(d.in, values[k])
			}
		}
		var stop int
		d.value, d.takesC, stop = operate(m, n, d.in)
		if stop != 0 {
			t.fault = api.RnFault{Kind: stop, Node: at.node, Step: at.step}
			return t
		}
		values[at.node] = d.value
		t.all = append(t.all, d)
	}
	return t
}

// stateNode returns the node whose value a state has at the beginning of a step. If
// the step before has no nodes to do, Next is in the head, and has its value from
// there.
func stateNode(x api.State, step int) int {
	if step == 1 {
		return x.Init
	}
	return x.Next
}

// operate does the operation of a node.
func operate[V any](m arithmetic[V], n api.Node, in []V) (x V, takesC bool, stop int) {
	op := n.Op
	if op == api.OpSel {
		if takesC, stop = m.atMost(in[0], in[1]); stop != 0 {
			return x, false, stop
		}
		op, in = api.OpCast, taken(in, takesC)
	}
	x, stop = m.apply(op, n.Format, in)
	return x, takesC, stop
}

// taken returns the one operand that OpSel takes.
func taken[V any](in []V, takesC bool) []V {
	if takesC {
		return in[2:3]
	}
	return in[3:4]
}
