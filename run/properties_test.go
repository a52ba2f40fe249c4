package run_test

import (
	"math/rand"
	"slices"
	"testing"

	"vernier/api"
	"vernier/exact"
	"vernier/floats"
	"vernier/lang"
	"vernier/reals"
	"vernier/run"
)

// outcome is what a program comes to in both runs, for one input.
type outcome struct {
	float      exact.Num
	floatFault api.RnFault
	list       []api.RlNode
	at         int
	realFault  api.RnFault
	realError  api.Errno
}

func outcomeOf(t *testing.T, p api.Prog, in []api.Rat, steps int) outcome {
	t.Helper()
	var o outcome
	var e api.Errno
	if o.float, o.floatFault, e = run.Float(p, in, steps); e != api.OK {
		t.Fatalf("Float: error %d", e)
	}
	o.list, o.at, o.realFault, o.realError = run.Real(p, in, steps)
	return o
}

// sameReal reports whether two real runs have the same value, to 1000 bits.
func sameReal(a, b outcome) bool {
	lo1, hi1, e1 := reals.Enclose(a.list, a.at, 1000)
	lo2, hi2, e2 := reals.Enclose(b.list, b.at, 1000)
	return e1 == api.OK && e2 == api.OK && lo1.Cmp(lo2) == 0 && hi1.Cmp(hi2) == 0
}

// TestP5_8_Canon: a program and its canonical form have the same values, or faults of
// the same kind; Unroll has the value of the program.
func TestP5_8_Canon(t *testing.T) {
	random := rand.New(rand.NewSource(58))
	unrolled, values := 0, 0
	for range 4000 {
		p := randomProgram(t, random)
		in, steps := randomInputs(random, p), random.Intn(5)
		want := outcomeOf(t, p, in, steps)
		q, _, e := lang.Canon(p)
		if e != api.OK {
			t.Fatalf("Canon: error %d", e)
		}
		got := outcomeOf(t, q, in, steps)
		if got.float.Cmp(want.float) != 0 || got.floatFault.Kind != want.floatFault.Kind {
			t.Fatalf("%+v: %s, fault %v, want %s, fault %v", q, got.float.Text(), got.floatFault, want.float.Text(), want.floatFault)
		}
		// The canonical form does less: its real run may not be too large.
		if want.realError == api.OK && (got.realError != api.OK || got.realFault.Kind != want.realFault.Kind) {
			t.Fatalf("%+v: fault %v, error %d, want %v", q, got.realFault, got.realError, want.realFault)
		}
		hasReal := want.realError == api.OK && want.realFault == noFault
		if hasReal && !sameReal(got, want) {
			t.Fatalf("%+v: another real value", q)
		}
		u, e := lang.Unroll(p, steps)
		if e != api.OK {
			continue
		}
		unrolled++
		got = outcomeOf(t, u, in, 0)
		if want.floatFault == noFault && (got.floatFault != noFault || got.float.Cmp(want.float) != 0) {
			t.Fatalf("%+v: %s, fault %v, want %s", u, got.float.Text(), got.floatFault, want.float.Text())
		}
		if hasReal {
			values++
			if got.realFault != noFault || got.realError != api.OK || !sameReal(got, want) {
				t.Fatalf("%+v: %v, fault %v, error %d, want %v", u, got.list, got.realFault, got.realError, want.list)
			}
		}
	}
	if unrolled < 2000 || values < 1500 {
		t.Errorf("only %d are unrolled, %d with a real value", unrolled, values)
	}
}

// TestP5_9_Values: each value is one of its node's format; selections and what only
// turns signs are exact, if operands have the format.
func TestP5_9_Values(t *testing.T) {
	random := rand.New(rand.NewSource(59))
	chosen, turned := 0, 0
	for range 4000 {
		p := randomProgram(t, random)
		in, steps := randomInputs(random, p), random.Intn(4)
		l, _, e := run.Values(p, in, steps)
		if e != api.OK {
			t.Fatalf("Values: error %d", e)
		}
		now := map[int]exact.Num{}
		for _, v := range l {
			n := p.Nodes[v.Node]
			x := number(t, v.Value)
			now[v.Node] = x
			if !floats.Has(p.Formats[n.Format], x) {
				t.Fatalf("%+v: %s is no value of the format", p, value(v))
			}
			kids := lang.Kids(n)
			if slices.ContainsFunc(kids, func(k int) bool { return p.Nodes[k].Format != n.Format }) {
				continue
			}
			switch n.Op {
			case api.OpSel, api.OpMin, api.OpMax:
				chosen++
				if !slices.ContainsFunc(kids, func(k int) bool { return now[k].Cmp(x) == 0 }) {
					t.Fatalf("%+v: %s is no operand", p, value(v))
				}
			case api.OpNeg, api.OpAbs, api.OpCast:
				turned++
				a := now[n.A]
				if a.Abs().Cmp(x.Abs()) != 0 || n.Op == api.OpNeg && a.Neg().Cmp(x) != 0 || n.Op == api.OpCast && a.Cmp(x) != 0 || n.Op == api.OpAbs && x.Sign() < 0 {
					t.Fatalf("%+v: %s is not exact", p, value(v))
				}
			}
		}
	}
	if chosen < 500 || turned < 500 {
		t.Errorf("only %d choose, and %d turn signs", chosen, turned)
	}
}

// TestP5_10_Order: operations keep order.
func TestP5_10_Order(t *testing.T) {
	random := rand.New(rand.NewSource(510))
	formats := []api.Format{{E: 3, P: 3}, {E: 5, P: 11}, {E: 8, P: 24}}
	compared := map[int]int{}
	for range 20000 {
		op := []int{api.OpAdd, api.OpMin, api.OpMax, api.OpSqrt, api.OpCast, api.OpMul}[random.Intn(6)]
		f, mode := formats[random.Intn(3)], random.Intn(5)
		var less, more []exact.Num
		for range operandsModel(api.Node{Op: op}) {
			a, b := number(t, toText(randomRat(random))), number(t, toText(randomRat(random)))
			if op == api.OpMul {
				a, b = a.Abs(), b.Abs()
			}
			less, more = append(less, a.Min(b)), append(more, a.Max(b))
		}
		x, fault1, _ := run.Operate(mode, f, op, less)
		y, fault2, _ := run.Operate(mode, f, op, more)
		if fault1 != 0 || fault2 != 0 {
			continue
		}
		compared[op]++
		if x.Cmp(y) > 0 {
			t.Fatalf("operation %d in mode %d: %s, and then %s", op, mode, x.Text(), y.Text())
		}
	}
	for op, count := range compared {
		if count < 300 {
			t.Errorf("operation %d is compared only %d times", op, count)
		}
	}
}

// TestP5_11_NoErrors: what is never rounded has no error.
func TestP5_11_NoErrors(t *testing.T) {
	random := rand.New(rand.NewSource(511))
	for range 1500 {
		m := &maker{Rand: random, prefers: []int{api.OpNeg}}
		m.p.Mode = random.Intn(5)
		m.p.Formats = []api.Format{someFormats[random.Intn(len(someFormats))]}
		m.p.Inputs = []api.Input{{Lo: "-2", Hi: "3"}, {Lo: "-1/2", Hi: "1"}}
		m.p.Nodes = []api.Node{{Op: api.OpInput}, {Op: api.OpInput, A: 1}}
		m.p.States = []api.State{{Init: 0}, {Init: 1}}
		choose := func(from, count int) {
			for range count {
				sees := []int{0, 1}
				for i := from; i < len(m.p.Nodes); i++ {
					sees = append(sees, i)
				}
				kid := func() int { return sees[max(random.Intn(len(sees)), random.Intn(len(sees)))] }
				n := api.Node{Op: []int{api.OpNeg, api.OpAbs, api.OpMin, api.OpMax, api.OpState}[random.Intn(5)]}
				switch n.Op {
				case api.OpState:
					n.A = random.Intn(2)
				case api.OpMin, api.OpMax:
					n.A, n.B = kid(), kid()
				default:
					n.A = kid()
				}
				m.p.Nodes = append(m.p.Nodes, n)
			}
		}
		m.p.Head = 2
		choose(2, 1+random.Intn(8))
		m.p.Tail = len(m.p.Nodes)
		choose(m.p.Tail, 1+random.Intn(8))
		m.p.States[0].Next, m.p.States[1].Next = m.p.Tail-1, random.Intn(m.p.Tail)
		m.p.Result = len(m.p.Nodes) - 1
		in := randomInputs(random, m.p)
		lo, hi, f, e := run.Error(m.p, in, random.Intn(20), random.Intn(2001))
		if lo.Sign() != 0 || hi.Sign() != 0 || f != noFault || e != api.OK {
			t.Fatalf("%+v: from %s to %s, fault %v, error %d", m.p, lo.Text(), hi.Text(), f, e)
		}
		if l, e := run.Events(m.p, in, 3); len(l) > 0 || e != api.OK {
			t.Fatalf("%+v: events %v, error %d", m.p, l, e)
		}
	}
}
