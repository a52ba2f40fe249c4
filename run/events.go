package run

import (
	"vernier/api"
	"vernier/exact"
	"vernier/floats"
)

// times are one time that a node is done in both runs.
type times struct {
	api.Node
	float done[exact.Num]
	real  done[realValue]
}

// events returns the events, as far as both runs go.
func (b *both) events() []api.RnEvent {
	var out []api.RnEvent
	for i := range min(len(b.float.all), len(b.real.all)) {
		f := b.float.all[i]
		b.watch(times{b.Nodes[f.node], f, b.real.all[i]}, func(kind, bits int) {
			out = append(out, api.RnEvent{Kind: kind, Node: f.node, Step: f.step, Bits: bits})
		})
	}
	return out
}

// watch notes the events of one time, in the order of their kinds.
func (b *both) watch(t times, note func(kind, bits int)) {
	format := b.Formats[t.Format]
	if t.isSum() {
		if bits := t.cancelled(format); bits >= 2 && b.isInexact(t) {
			note(api.RnCancel, bits)
		}
	}
	if t.underflows(format) {
		note(api.RnUnderflow, 0)
	}
	if t.isSum() && t.absorbs() {
		note(api.RnAbsorb, 0)
	}
	if t.float.takesC != t.real.takesC {
		note(api.RnDiverge, 0)
	}
}

func (t times) isSum() bool { return t.Op == api.OpAdd || t.Op == api.OpSub }

// cancelled returns how many leading bits of a sum cancel; 0, if an operand is 0.
func (t times) cancelled(format api.Format) int {
	a, e := t.float.in[0].Log()
	if e != api.OK {
		return 0
	}
	b, e := t.float.in[1].Log()
	if e != api.OK {
		return 0
	}
	c, e := t.float.value.Log()
	if e != api.OK {
		return format.P
	}
	return max(a, b) - c
}

// isInexact reports whether an operand has another value in the real run.
func (b *both) isInexact(t times) bool {
	for i, x := range t.float.in {
		if b.real.cmp(t.real.in[i], plainValue(x)) != 0 {
			return true
		}
	}
	return false
}

// underflows reports whether a value below the least normal one is rounded.
func (t times) underflows(format api.Format) bool {
	normal, _ := floats.Normal(format)
	op, in, y := t.Op, t.float.in, t.float.value
	switch op {
	case api.OpSqrt:
		// The squares compare as the roots do.
		return in[0].Cmp(normal.Mul(normal)) < 0 && y.Mul(y).Cmp(in[0]) != 0
	case api.OpSel:
		op, in = api.OpCast, taken(in, t.float.takesC)
	}
	x, _ := compute(op, in)
	return x.Abs().Cmp(normal) < 0 && x.Cmp(y) != 0
}

// absorbs reports whether an operand of a sum that is not 0 makes no difference.
func (t times) absorbs() bool {
	a, b, sum := t.float.in[0], t.float.in[1], t.float.value
	if sum.Cmp(a) == 0 && b.Sign() != 0 {
		return true
	}
	if t.Op == api.OpSub {
		b = b.Neg()
	}
	return sum.Cmp(b) == 0 && a.Sign() != 0
}
