package rewrite_test

import (
	"fmt"
	"math"
	"testing"

	"vernier/api"
	"vernier/bounds"
	"vernier/lang"
	"vernier/proofs"
	"vernier/rewrite"
)

// TestP9_3_Steps: ascending by the node, then by the rule; exactly where Apply has no error.
func TestP9_3_Steps(t *testing.T) {
	for _, x := range []struct{ expression, steps string }{
		{"x", ""},
		{"(x * y + x * z) * 1", "mul-swap 4, mul-swap 5, add-swap 6, gather 6, fuse 6, mul-swap 8, mul-one 8"},
		{"abs(z) - abs(x)", "abs-same 5, sub-add 6"},
		{"x + x", "add-swap 4, double 4"},
		{"(2 + 3) / 0", "add-swap 6, fold 6, div-spread 8"},
		{"min(x, sqrt(2))", ""},
	} {
		p := expression(t, x.expression)
		expectSteps(t, x.expression, x.steps, api.OK)(rewrite.Steps(p))
	}
	for _, p := range []api.Prog{expression(t, "(x * y - x * z) / (sqrt(x) - sqrt(y)) + (x - x) * s(w)"), expression(t, "if abs(x) <= min(z, 2) then 2 + 3 else x + 0")} {
		p = canon(t, p)
		var want []api.RwStep
		for node := range p.Nodes {
			for rule := range rewrite.Rules() {
				s := api.RwStep{Rule: rule + 1, Node: node}
				if _, e := rewrite.Apply(p, s); e == api.OK {
					want = append(want, s)
				}
			}
		}
		expectSteps(t, text(p), stepsText(want), api.OK)(rewrite.Steps(p))
	}
	expectSteps(t, "no program", "", api.ErrArg)(rewrite.Steps(api.Prog{}))
	expectSteps(t, "too many inputs", "", api.ErrLong)(rewrite.Steps(tooManyInputs()))
	expectSteps(t, "a loop", "", rewrite.ErrState)(rewrite.Steps(program(t, loop)))
	expectSteps(t, "a loop that is not needed", "add-swap 1, double 1", api.OK)(rewrite.Steps(program(t, idleLoop)))
}

// TestP9_3_Limit: a step that would make too many nodes is none.
func TestP9_3_Limit(t *testing.T) {
	p := canon(t, expression(t, "x - y"))
	for len(p.Nodes) < api.MaxNodes {
		p.Nodes = append(p.Nodes, api.Node{Op: api.OpSqrt, A: len(p.Nodes) - 1})
	}
	p.Head, p.Tail, p.Result = len(p.Nodes), len(p.Nodes), len(p.Nodes)-1
	expectSteps(t, "64 nodes", "", api.OK)(rewrite.Steps(p))
	p, e := lang.Sub(p, api.MaxNodes-2)
	if e != api.OK {
		t.Fatalf("Sub: error %d", e)
	}
	expectSteps(t, "63 nodes", "sub-add 4", api.OK)(rewrite.Steps(p))
}

// TestP9_4_Replay: each step is applied to the program after the one before; the first error
// decides, and its number is told.
func TestP9_4_Replay(t *testing.T) {
	p := with(t, "let u : s = x / 3; let a : s = x * y + x * z; result a")
	c := canon(t, p)
	gathered := canon(t, expression(t, "x * (y + z)"))
	swapped := canon(t, expression(t, "x * (z + y)"))
	for _, x := range []struct {
		steps string
		want  api.Prog
		at    int
		e     api.Errno
	}{
		{"", c, 0, api.OK},
		{"gather 6", gathered, 0, api.OK},
		{"gather 6, add-swap 4", swapped, 0, api.OK},
		{"gather 6, add-swap 4, add-swap 4, spread 5", c, 0, api.OK},
		{"gather 6, gather 6", c, 1, api.ErrRange},
		{"gather 6, gather 5", c, 1, rewrite.ErrMatch},
		{"gather 5, gather 9", c, 0, rewrite.ErrMatch},
		{"add-swap 6, add-swap 6, add-swap 7, gather 5", c, 2, api.ErrRange},
	} {
		expectReplay(t, x.steps, x.want, x.at, x.e)(rewrite.Replay(p, steps(t, x.steps)))
	}
	sides := expression(t, "abs(z) + abs(x)")
	expectReplay(t, "a condition", sides, 1, rewrite.ErrSide)(rewrite.Replay(sides, steps(t, "abs-same 5, abs-same 4, add-swap 9")))
	expectReplay(t, "no rule", p, 1, api.ErrRange)(rewrite.Replay(p, append(steps(t, "gather 6"), api.RwStep{Rule: 41, Node: 4})))
	for _, l := range [][]api.RwStep{nil, {}, steps(t, "gather 6")} {
		expectReplay(t, "no program", p, 0, api.ErrArg)(rewrite.Replay(api.Prog{}, l))
		expectReplay(t, "too many inputs", p, 0, api.ErrLong)(rewrite.Replay(tooManyInputs(), l))
		expectReplay(t, "a loop", p, 0, rewrite.ErrState)(rewrite.Replay(program(t, loop), l))
	}
	idle := canon(t, program(t, idleLoop))
	expectReplay(t, "a loop that is not needed", idle, 0, api.OK)(rewrite.Replay(program(t, idleLoop), nil))
}

// squares are the programs that are reached from x * x - x, with their steps. After five
// rounds there are no others.
var squares = []struct {
	steps string
	round int
	lines string
}{
	{"", 0, "let b : h = a - x"},
	{"sub-add 2", 1, "let n : h = - x; let b : h = a + n"},
	{"sub-add 2, add-swap 3", 2, "let n : h = - x; let b : h = n + a"},
	{"sub-add 2, fuse 3", 2, "let n : h = - x; let b : h = fma(x, x, n)"},
	{"sub-add 2, fuse 3, unfuse 2", 3, "let n : h = - x; let a : h = x * x; let b : h = a + n"},
	{"sub-add 2, fuse 3, unfuse 2, add-swap 3", 4, "let n : h = - x; let a : h = x * x; let b : h = n + a"},
}

// reachedSquares returns these programs.
func reachedSquares(t testing.TB) []api.Prog {
	t.Helper()
	var out []api.Prog
	for i, x := range squares {
		lines := x.lines
		if i < 4 {
			lines = "let a : h = x * x; " + lines
		}
		out = append(out, canon(t, program(t, "format h 5 11; input x : h from 1 to 2; "+lines+"; result b")))
	}
	return out
}

// TestP9_5_Reach: the programs come round by round, in the order of those before and of their
// steps, each once; at most so many.
func TestP9_5_Reach(t *testing.T) {
	p, all := program(t, square), reachedSquares(t)
	for rounds := range api.MaxRwRounds + 1 {
		for _, most := range []int{1, 2, 3, 4, 5, 6, 7, 199, api.MaxRwProgs} {
			var want []api.Prog
			for i, q := range all {
				if squares[i].round <= rounds && i < most {
					want = append(want, q)
				}
			}
			expectPrograms(t, fmt.Sprintf("%d rounds, %d programs", rounds, most), want, api.OK)(rewrite.Reach(p, rounds, most))
		}
	}
	// In the second round nothing new comes before the steps of the third program.
	q := expression(t, "x * 1 + y * 1")
	expectPrograms(t, "two rounds", []api.Prog{
		canon(t, q),
		canon(t, expression(t, "1 * x + y * 1")), // mul-swap 5
		canon(t, expression(t, "x + y * 1")),     // mul-one 5
		canon(t, expression(t, "x * 1 + 1 * y")), // mul-swap 6
		canon(t, expression(t, "x * 1 + y")),     // mul-one 6
		canon(t, with(t, "let c : s = 1; let a : s = x * c; let b : s = y * c; let r : s = b + a; result r")), // add-swap 7
		canon(t, with(t, "let c : s = 1; let b : s = y * c; let r : s = fma(x, c, b); result r")),             // fuse 7
		canon(t, expression(t, "1 * x + 1 * y")),                                                              // mul-swap 6 of the second one
		canon(t, expression(t, "1 * x + y")),                                                                  // mul-one 6
		canon(t, with(t, "let c : s = 1; let a : s = c * x; let b : s = y * c; let r : s = b + a; result r")), // add-swap 7
		canon(t, with(t, "let c : s = 1; let b : s = y * c; let r : s = fma(c, x, b); result r")),             // fuse 7
		canon(t, with(t, "let c : s = 1; let b : s = c * y; let r : s = x + b; result r")),                    // mul-swap 5 of the third one
		canon(t, expression(t, "x + y")),                                                                      // mul-one 5
	}, api.OK)(rewrite.Reach(q, 2, 13))
}

// TestP9_5_Path: the steps by which a program was added; programs may have any form.
func TestP9_5_Path(t *testing.T) {
	p, all := program(t, square), reachedSquares(t)
	for i, x := range squares {
		expectPath(t, x.steps, x.steps, true, api.OK)(rewrite.Path(p, all[i], 8, 200))
		expectPath(t, x.steps+", just", x.steps, true, api.OK)(rewrite.Path(p, all[i], x.round, i+1))
		if i > 0 {
			expectPath(t, x.steps+", a round too few", "", false, api.OK)(rewrite.Path(p, all[i], x.round-1, 200))
			expectPath(t, x.steps+", a program too few", "", false, api.OK)(rewrite.Path(p, all[i], 8, i))
		}
	}
	longer := program(t, "format h 5 11; input x : h from 1 to 2; let u : h = x / 3; let a : h = x * x; let c : h = x * x; let n : h = - x; let m : h = - x; let b : h = a + m; result b")
	expectPath(t, "not canonical", "sub-add 2", true, api.OK)(rewrite.Path(p, longer, 1, 5))
	expectPath(t, "back", "add-sub 3", true, api.OK)(rewrite.Path(longer, p, 1, 5))
	expectPath(t, "itself", "", true, api.OK)(rewrite.Path(longer, all[1], 0, 1))
	other := program(t, "format h 5 11; input x : h from 1 to 1; let a : h = x * x; let b : h = a - x; result b")
	expectPath(t, "another box", "", false, api.OK)(rewrite.Path(p, other, 8, 200))
	expectPath(t, "another mode", "", false, api.OK)(rewrite.Path(p, program(t, "mode up; "+square), 8, 200))
}

// TestP9_5_Errors: each error, and which one comes first.
func TestP9_5_Errors(t *testing.T) {
	p, states := program(t, square), program(t, loop)
	for _, x := range []struct {
		rounds, most int
		e            api.Errno
	}{
		{-1, 5, api.ErrRange}, {9, 5, api.ErrRange}, {math.MinInt, 5, api.ErrRange}, {math.MaxInt, 5, api.ErrRange},
		{1, 0, api.ErrRange}, {1, -1, api.ErrRange}, {1, 201, api.ErrRange}, {1, math.MinInt, api.ErrRange}, {1, math.MaxInt, api.ErrRange},
		{0, 1, api.OK}, {8, 200, api.OK},
	} {
		what := fmt.Sprintf("%d rounds, %d programs", x.rounds, x.most)
		if l, e := rewrite.Reach(p, x.rounds, x.most); e != x.e || (e == api.OK) != (len(l) > 0) {
			t.Errorf("Reach, %s: %d programs, error %d", what, len(l), e)
		}
		expectPath(t, what, "", x.e == api.OK, x.e)(rewrite.Path(p, p, x.rounds, x.most))
		if q, l, bound, e := rewrite.Best(p, api.BdPlan{Bits: 30}, x.rounds, x.most); e != x.e || e != api.OK && (!lang.Same(q, api.Prog{}) || len(l) > 0 || bound != "") {
			t.Errorf("Best, %s: error %d", what, e)
		}
		for _, c := range []struct {
			what string
			p    api.Prog
			e    api.Errno
		}{
			{"no program", api.Prog{}, api.ErrArg},
			{"too many inputs", tooManyInputs(), api.ErrLong},
			{"a loop", states, rewrite.ErrState},
		} {
			expectPrograms(t, what+c.what, nil, c.e)(rewrite.Reach(c.p, x.rounds, x.most))
			expectBest(t, what+c.what, p, "", "", c.e)(rewrite.Best(c.p, api.BdPlan{}, x.rounds, x.most))
			expectPath(t, what+c.what, "", false, c.e)(rewrite.Path(c.p, p, x.rounds, x.most))
			expectPath(t, what+c.what, "", false, c.e)(rewrite.Path(p, c.p, x.rounds, x.most))
			expectPath(t, what+c.what, "", false, c.e)(rewrite.Path(c.p, states, x.rounds, x.most))
			expectPath(t, what+c.what, "", false, rewrite.ErrState)(rewrite.Path(states, c.p, x.rounds, x.most))
		}
	}
}

// TestP9_6_Best: the least bound, the first program that has it, and the steps to it.
func TestP9_6_Best(t *testing.T) {
	plan := api.BdPlan{Bits: 30}
	in := func(box, lines string) api.Prog {
		return program(t, "format h 5 11; input x : h from "+box+"; input y : h from "+box+"; "+lines+"; result r")
	}
	p := in("1 to 2", "let a : h = x + y; let r : h = a - x")
	expectBest(t, "add-back", program(t, "format h 5 11; input x : h from 1 to 2; input y : h from 1 to 2; result y"), "add-back 3", "0", api.OK)(rewrite.Best(p, plan, 1, 9))
	// The sum is at most 4, and rounded by 1/512; the difference at most 3, and by 1/1024.
	expectBest(t, "no rounds", canon(t, p), "", "3/1024", api.OK)(rewrite.Best(p, plan, 0, 9))
	expectBest(t, "one program", canon(t, p), "", "3/1024", api.OK)(rewrite.Best(p, plan, 8, 1))
	// All that is reached has the same bound: the first one is meant.
	q := in("1 to 2", "let r : h = x + y")
	expectBest(t, "the first one", canon(t, q), "", "1/512", api.OK)(rewrite.Best(q, plan, 2, 9))
	// The first one with the least bound is not the first one with any.
	fused := program(t, "format h 5 11; input x : h from 1 to 2; let n : h = - x; let b : h = fma(x, x, n); result b")
	expectBest(t, "x * x - x", fused, "sub-add 2, fuse 3", "1/1024", api.OK)(rewrite.Best(program(t, square), plan, 8, 200))
	expectBest(t, "x * x - x, fewer programs", program(t, square), "", "3/1024", api.OK)(rewrite.Best(program(t, square), plan, 8, 3))
}

// TestP9_6_Plan: bounds are those by the plan, and what is wrong with it is an error.
func TestP9_6_Plan(t *testing.T) {
	p := program(t, "format h 5 11; input x : h from 0 to 1; let a : h = x * x - x + 1; let b : h = 1 / a; result b")
	expectBest(t, "steps", p, "", "", proofs.ErrFault)(rewrite.Best(p, api.BdPlan{Bits: 30}, 0, 5))
	for _, plan := range []api.BdPlan{{Bits: 30, Mean: true}, {Bits: 30, Splits: 6}} {
		x, e := bounds.Error(p, plan)
		if e != api.OK {
			t.Fatalf("Error: error %d", e)
		}
		expectBest(t, dump(plan), canon(t, p), "", x.Text(), api.OK)(rewrite.Best(p, plan, 0, 5))
	}
	for _, plan := range []api.BdPlan{{}, {Bits: 7}, {Bits: 401}, {Bits: 30, Splits: -1}, {Bits: 30, Splits: 41}, {Bits: 30, Widen: 21}} {
		expectBest(t, dump(plan), p, "", "", api.ErrRange)(rewrite.Best(p, plan, 8, 200))
	}
}

// TestP9_6_NoBound: where no program has a bound, the error is that of the first one.
func TestP9_6_NoBound(t *testing.T) {
	plan := api.BdPlan{Bits: 30}
	tiny := "{1/" + digits(api.MaxDigits) + "}"
	for _, x := range []struct {
		expression string
		e          api.Errno
		after      string // the program after sel-then, the only step
		afterE     api.Errno
	}{
		{"(if 0 <= 1 then x else 1 / z) / " + tiny, proofs.ErrFault, "x / " + tiny, api.ErrLong},
		{"(if 0 <= 1 then x else " + tiny + ") / (1 / z)", api.ErrLong, "x / (1 / z)", proofs.ErrFault},
	} {
		p, after := expression(t, x.expression), expression(t, x.after)
		expectPrograms(t, x.expression, []api.Prog{canon(t, p), canon(t, after)}, api.OK)(rewrite.Reach(p, 1, 2))
		for most := range 2 {
			expectBest(t, x.expression, p, "", "", x.e)(rewrite.Best(p, plan, 1, most+1))
		}
		expectBest(t, x.after, p, "", "", x.afterE)(rewrite.Best(after, plan, 0, 1))
	}
	// The first one has none, but others have.
	p := expression(t, "1 / ((z - z) + 1)")
	if _, e := bounds.Error(p, plan); e != proofs.ErrFault {
		t.Errorf("Error: error %d", e)
	}
	want := canon(t, with(t, "let a : s = 1; let b : s = 0; let c : s = b + a; let r : s = a / c; result r"))
	err, e := bounds.Error(want, plan)
	if e != api.OK {
		t.Fatalf("Error: error %d", e)
	}
	expectBest(t, "one has a bound", want, "sub-same 5", err.Text(), api.OK)(rewrite.Best(p, plan, 1, 200))
}
