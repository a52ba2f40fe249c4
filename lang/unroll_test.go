package lang_test

import (
	"fmt"
	"math/rand"
	"testing"

	"vernier/api"
	"vernier/exact"
	"vernier/lang"
)

// TestP4_5_Unroll: copies of nodes, and what nodes of states stand for.
func TestP4_5_Unroll(t *testing.T) {
	// Two states change places; the third one is the sum of both.
	head := "input 0; const 2; const 0"
	body := "state 0; state 1; state 2; add 3 4; const 7; neg 5"
	rest := "input@1 1; state 2; state 0; sub 10 11; neg 1; state 1"
	p := valid(t, draft(t, head, body, rest, "0 4; 1 3; 2 6", 12))
	p.Mode = api.RnDown
	for steps, want := range []string{
		head + "; input@1 1; sub 2 0; neg 1",
		head + "; add 0 1; const 7; neg 2; input@1 1; sub 3 1; neg 1",
		head + "; add 0 1; const 7; neg 2; add 1 0; const 7; neg 3; input@1 1; sub 6 0; neg 1",
		head + "; add 0 1; const 7; neg 2; add 1 0; const 7; neg 3; add 0 1; const 7; neg 6; input@1 1; sub 9 1; neg 1",
	} {
		q := draft(t, want, "", "", "", 4+3*steps)
		q.Mode = api.RnDown
		expectProg(t, fmt.Sprint(steps, " steps"), q, api.OK)(lang.Unroll(p, steps))
		other := clone(p)
		for result, wantResult := range map[int]int{0: 0, 2: 2, 9: 3 + 3*steps, 10: []int{2, 3, 6, 9}[steps], 11: steps % 2, 13: 5 + 3*steps, 14: 1 - steps%2} {
			other.Result, q.Result = result, wantResult
			expectProg(t, fmt.Sprint(steps, " steps, to the result ", result), q, api.OK)(lang.Unroll(other, steps))
		}
	}
}

// TestP4_5_UnrollNext: a Next in the head, one that is the state itself, and a
// body without other nodes.
func TestP4_5_UnrollNext(t *testing.T) {
	p := valid(t, draft(t, "const 1; const 2; const 3", "state 0; state 1; state 1", "state 0; state 1; add 6 7", "0 1; 2 5", 8))
	expectProg(t, "no step", draft(t, "const 1; const 2; const 3; add 0 2", "", "", "", 3), api.OK)(lang.Unroll(p, 0))
	for _, steps := range []int{1, 2, 200} {
		expectProg(t, fmt.Sprint(steps, " steps"), draft(t, "const 1; const 2; const 3; add 1 2", "", "", "", 3), api.OK)(lang.Unroll(p, steps))
	}
	p = valid(t, draft(t, "const 1; const 2", "", "", "0 1", 1))
	expectProg(t, "no body", draft(t, "const 1; const 2", "", "", "", 1), api.OK)(lang.Unroll(p, 200))
}

// TestP4_5_UnrollErrors: steps out of their range, and too many nodes.
func TestP4_5_UnrollErrors(t *testing.T) {
	p := valid(t, draft(t, "const 1; const 2", "state 0; neg 2; abs 3", "state 0; neg 5; neg 6", "0 4", 7))
	for steps := -3; steps < 210; steps++ {
		q, e := lang.Unroll(p, steps)
		wantE := api.OK
		switch {
		case steps < 0 || steps > 200:
			wantE = api.ErrRange
		case 4+2*steps > 64:
			wantE = api.ErrLong
		}
		if e != wantE || e == api.OK && len(q.Nodes) != 4+2*steps || e != api.OK && !isZero(q) {
			t.Errorf("%d steps: %d nodes, error %d", steps, len(q.Nodes), e)
		}
	}
	odd := valid(t, draft(t, "const 1; const 2; const 3", "state 0; neg 3; abs 4", "state 0; neg 6; neg 7", "0 5", 8))
	if q, e := lang.Unroll(odd, 29); e != api.OK || len(q.Nodes) != 63 {
		t.Errorf("63 nodes: error %d", e)
	}
	expectProg(t, "65 nodes", api.Prog{}, api.ErrLong)(lang.Unroll(odd, 30))
	alone := draft(t, "const 1", "", "", "", 0)
	for steps, wantE := range map[int]api.Errno{-1: api.ErrRange, 0: api.OK, 200: api.OK, 201: api.ErrRange} {
		if _, e := lang.Unroll(alone, steps); e != wantE {
			t.Errorf("%d steps without states: error %d", steps, e)
		}
	}
	p.Result = 2
	expectProg(t, "an invalid program", api.Prog{}, api.ErrRange)(lang.Unroll(p, -1))
}

// runner evaluates programs over the rational numbers, without roots.
type runner struct {
	p      api.Prog
	in     []exact.Num
	values map[int]exact.Num
	fails  bool
}

// runProgram returns the value of a program, if it has one. Only needed nodes are
// done.
func runProgram(p api.Prog, in []exact.Num, steps int) (exact.Num, bool) {
	r := &runner{p: p, in: in, values: map[int]exact.Num{}}
	needed, _ := modelNeeds(p)
	states := make([]exact.Num, len(p.States))
	section := func(from, to int) {
		for i := from; i < to; i++ {
			if needed[i] && !r.fails {
				r.values[i] = r.value(p.Nodes[i], states)
			}
		}
	}
	section(0, p.Head)
	for s, x := range p.States {
		states[s] = r.values[x.Init]
	}
	for range steps {
		section(p.Head, p.Tail)
		next := make([]exact.Num, len(states))
		for s, x := range p.States {
			next[s] = r.values[x.Next]
		}
		states = next
	}
	section(p.Tail, len(p.Nodes))
	return r.values[p.Result], !r.fails
}

func (r *runner) value(n api.Node, states []exact.Num) exact.Num {
	a, b, c, d := r.values[n.A], r.values[n.B], r.values[n.C], r.values[n.D]
	switch n.Op {
	case api.OpInput:
		return r.in[n.A]
	case api.OpState:
		return states[n.A]
	case api.OpConst:
		x, _ := exact.Parse(n.Value)
		return x
	case api.OpNeg:
		return a.Neg()
	case api.OpAbs:
		return a.Abs()
	case api.OpCast:
		return a
	case api.OpAdd:
		return a.Add(b)
	case api.OpSub:
		return a.Sub(b)
	case api.OpMul:
		return a.Mul(b)
	case api.OpDiv:
		x, e := a.Quo(b)
		r.fails = r.fails || e != api.OK
		return x
	case api.OpMin:
		return a.Min(b)
	case api.OpMax:
		return a.Max(b)
	case api.OpFma:
		return a.Mul(b).Add(c)
	case api.OpSel:
		if a.Cmp(b) <= 0 {
			return c
		}
		return d
	}
	x, is := a.Root() // of others there is no rational number
	r.fails = r.fails || !is
	return x
}

// TestP4_5_Values: Unroll, Canon and Parse of the text do the same as the program.
func TestP4_5_Values(t *testing.T) {
	random := rand.New(rand.NewSource(45))
	unrolled, values := 0, 0
	for range 8000 {
		p := randomProgram(t, random)
		steps := random.Intn(4)
		var in []exact.Num
		for range p.Inputs {
			x, _ := exact.Ratio(int64(random.Intn(9)-4), 4)
			in = append(in, x)
		}
		want, is := runProgram(p, in, steps)
		if !is || want.Digits() > 2000 {
			continue
		}
		values++
		q, _, e := lang.Canon(p)
		if x, is := runProgram(q, in, steps); e != api.OK || !is || x.Cmp(want) != 0 {
			t.Fatalf("Canon of %s: error %d: %s, want %s", dump(p), e, x.Text(), want.Text())
		}
		u, e := lang.Unroll(p, steps)
		if e == api.ErrLong {
			continue
		}
		unrolled++
		if x, is := runProgram(valid(t, u), in, 0); e != api.OK || !is || x.Cmp(want) != 0 {
			t.Fatalf("Unroll of %s, %d steps: error %d: %s, want %s", dump(p), steps, e, x.Text(), want.Text())
		}
	}
	if values < 3000 || unrolled < 2000 {
		t.Errorf("only %d programs have a value, and %d are unrolled", values, unrolled)
	}
}

// TestP4_10_Loops: what Unroll returns has no states; without states it is the
// program.
func TestP4_10_Loops(t *testing.T) {
	random := rand.New(rand.NewSource(410))
	for range 3000 {
		p := randomProgram(t, random)
		u, e := lang.Unroll(p, random.Intn(5))
		switch {
		case len(p.States) == 0:
			expectProg(t, "Unroll without states", p, api.OK)(u, e)
		case e == api.OK:
			valid(t, u)
			if len(u.States) > 0 || u.Head != len(u.Nodes) || u.Tail != len(u.Nodes) {
				t.Fatalf("states are left: %s", dump(u))
			}
			expectProg(t, "Unroll again", u, api.OK)(lang.Unroll(u, 7))
		case e != api.ErrLong:
			t.Fatalf("Unroll: error %d", e)
		}
	}
}
