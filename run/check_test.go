package run_test

import (
	"fmt"
	"strings"
	"testing"

	"vernier/api"
	"vernier/exact"
	"vernier/run"
)

func expectCheck(t *testing.T, what string, p api.Prog, in []api.Rat, steps, wantInput int, wantE api.Errno) {
	t.Helper()
	if input, e := run.Check(p, in, steps); input != wantInput || e != wantE {
		t.Errorf("%s: %d, error %d, want %d, error %d", what, input, e, wantInput, wantE)
	}
}

// twoInputs has inputs of two formats; with 10 steps it does nodes of all sections.
const twoInputs = "format s 8 24; format f 3 3; input x : s from -1/2 to 2; input y : f from 1 to 14;" +
	"state a : s = x; loop; next a = a + y; end; let b : s = a * y; result b"

// bounded is a program whose loop does so many nodes in each step.
func bounded(t *testing.T, perStep int) api.Prog {
	count := perStep - 1
	return program(t, "format s 8 24; state a : s = 1; loop; let b : s = "+strings.Repeat("-", count/2)+
		"a; next a = "+strings.Repeat("-", count-count/2)+"b; end; result a")
}

// TestP5_1_Inputs: each input is a number of its format and its box.
func TestP5_1_Inputs(t *testing.T) {
	p := program(t, strings.ReplaceAll(twoInputs, "-1/2", "{-1/2}"))
	long := "1" + strings.Repeat("0", 1999)
	for _, c := range []struct {
		in    string
		input int
		e     api.Errno
	}{
		{"0 1", 0, api.OK}, {"-1/2 14", 0, api.OK}, {"2 1", 0, api.OK}, {"1/3 1", 0, api.ErrRange}, {"1 11/8", 1, api.ErrRange},
		{"1 9/8", 1, api.ErrRange}, {"1 5/4", 0, api.OK}, {"-3/4 1", 0, api.ErrRange}, {"4 1", 0, api.ErrRange}, {"1 1/2", 1, api.ErrRange}, {"1 16", 1, api.ErrRange},
		{"2/4 1", 0, api.ErrForm}, {"1 +1", 1, api.ErrForm}, {"x y", 0, api.ErrForm}, {"1/3 y", 0, api.ErrRange}, {"16777217/16777216 1", 0, api.ErrRange},
		{"1 " + long, 1, api.ErrRange}, {"1 " + long + "0", 1, api.ErrLong}, {long + "0 x", 0, api.ErrLong},
		{"1", -1, api.ErrArg}, {"", -1, api.ErrArg}, {"x", -1, api.ErrArg}, {"1 1 1", -1, api.ErrArg},
	} {
		for _, steps := range []int{0, 1, 200} {
			expectCheck(t, fmt.Sprintf("%.60q", c.in), p, rats(c.in), steps, c.input, c.e)
		}
	}
	expectCheck(t, "an empty input", p, []api.Rat{"1", ""}, 0, 1, api.ErrForm)
	expectCheck(t, "no inputs", program(t, "format s 8 24; let a : s = 1; result a"), nil, 0, 0, api.OK)
	expectCheck(t, "an input too many", program(t, "format s 8 24; let a : s = 1; result a"), rats("1"), 0, -1, api.ErrArg)
	expectCheck(t, "an input that is not needed", single(t, "input x : s from 0 to 1; let r : s = 1"), rats("2"), 0, 0, api.ErrRange)
}

// TestP5_1_Order: the program, the steps, how many inputs, each input, and how many
// nodes.
func TestP5_1_Order(t *testing.T) {
	p := program(t, strings.ReplaceAll(twoInputs, "-1/2", "{-1/2}"))
	bad := p
	bad.Mode = 7
	expectCheck(t, "a program that is not valid", bad, nil, -1, -1, api.ErrArg)
	bad = p
	bad.Result = 99
	expectCheck(t, "a program without a result", bad, rats("x"), 999, -1, api.ErrRange)
	for _, steps := range []int{-1, 201, -1 << 63, 1<<63 - 1} {
		expectCheck(t, "steps", p, nil, steps, -1, api.ErrRange)
		expectCheck(t, "steps without a loop", program(t, half), rats("0"), steps, -1, api.ErrRange)
		if count, e := run.Count(p, steps); count != 0 || e != api.ErrRange {
			t.Errorf("Count for %d steps: %d, error %d", steps, count, e)
		}
		if count, e := run.Count(bad, steps); count != 0 || e != api.ErrRange {
			t.Errorf("Count without a result: %d, error %d", count, e)
		}
	}
	heavy := program(t, "format s 8 24; input x : s from 0 to 1; state a : s = x; loop; next a = "+strings.Repeat("-", 20)+"a; end; result a")
	expectCheck(t, "an input before the nodes", heavy, rats("2"), 200, 0, api.ErrRange)
	expectCheck(t, "too few inputs before the nodes", heavy, nil, 200, -1, api.ErrArg)
	expectCheck(t, "the nodes", heavy, rats("1"), 200, -1, api.ErrLong)
}

// TestP5_1_MaxNodes: a run does at most 2000 nodes. (The head and the rest have one
// each.)
func TestP5_1_MaxNodes(t *testing.T) {
	for _, c := range []struct{ perStep, steps, count int }{
		{9, 0, 2}, {9, 1, 11}, {9, 200, 1802}, {10, 199, 1992}, {10, 200, 2002}, {27, 74, 2000}, {27, 75, 2027}, {37, 54, 2000}, {37, 55, 2037}, {50, 200, 10002}, {1, 200, 202},
	} {
		p := bounded(t, c.perStep)
		if count, e := run.Count(p, c.steps); count != c.count || e != api.OK {
			t.Errorf("%d steps of %d nodes: %d, error %d, want %d", c.steps, c.perStep, count, e, c.count)
		}
		input, e := 0, api.OK
		if c.count > 2000 {
			input, e = -1, api.ErrLong
		}
		expectCheck(t, fmt.Sprint(c.count, " nodes"), p, nil, c.steps, input, e)
	}
	expectCheck(t, "2001 nodes", program(t, "format s 8 24; state a : s = 1; loop; next a = "+strings.Repeat("-", 26)+"a; end; let r : s = - a; result r"), nil, 74, -1, api.ErrLong)
}

// TestP5_1_Count counts needed nodes alone.
func TestP5_1_Count(t *testing.T) {
	for text, want := range map[string][3]int{
		newton: {2, 7, 12},
		half:   {5, 5, 5},
		"format s 8 24; input x : s from 0 to 1; let a : s = 1; let b : s = sqrt(a); let c : s = a + a; result c":                                                              {2, 2, 2},
		"format s 8 24; let a : s = 1; state t : s = a; state u : s = a; loop; next u = u * 2; next t = t + 1; end; let d : s = u; let e : s = 7; result t":                    {2, 5, 8},
		"format s 8 24; let a : s = 1; state t : s = a; state u : s = a; loop; next u = u * 2; next t = t + u; end; let d : s = u; let e : s = t - u; let r : s = t; result r": {2, 7, 12},
		"format s 8 24; let a : s = 1; state t : s = a; loop; next t = t * 2; end; result a":                                                                                   {1, 1, 1},
	} {
		p := program(t, text)
		for steps, count := range want {
			if got, e := run.Count(p, steps); got != count || e != api.OK {
				t.Errorf("%s, %d steps: %d, error %d, want %d", text, steps, got, e, count)
			}
		}
	}
}

// withInput has calls of all functions with an input, with other arguments that lead
// to their own errors, if bad is true; they tell whether all results are zero.
func withInput(bad bool) map[string]func(p api.Prog, in []api.Rat, steps int) (zero bool, e api.Errno) {
	bits, bound := 10, exact.Int(1)
	if bad {
		bits, bound = -1, exact.Int(-1)
	}
	return map[string]func(p api.Prog, in []api.Rat, steps int) (zero bool, e api.Errno){
		"Float": func(p api.Prog, in []api.Rat, steps int) (bool, api.Errno) {
			x, f, e := run.Float(p, in, steps)
			return x.Sign() == 0 && f == noFault, e
		},
		"Values": func(p api.Prog, in []api.Rat, steps int) (bool, api.Errno) {
			l, f, e := run.Values(p, in, steps)
			return len(l) == 0 && f == noFault, e
		},
		"Real": func(p api.Prog, in []api.Rat, steps int) (bool, api.Errno) {
			l, at, f, e := run.Real(p, in, steps)
			return len(l) == 0 && at == 0 && f == noFault, e
		},
		"Branches": func(p api.Prog, in []api.Rat, steps int) (bool, api.Errno) {
			float, real, e := run.Branches(p, in, steps)
			return len(float)+len(real) == 0, e
		},
		"Error": func(p api.Prog, in []api.Rat, steps int) (bool, api.Errno) {
			lo, hi, f, e := run.Error(p, in, steps, bits)
			return lo.Sign() == 0 && hi.Sign() == 0 && f == noFault, e
		},
		"Within": func(p api.Prog, in []api.Rat, steps int) (bool, api.Errno) {
			is, f, e := run.Within(p, in, steps, bound)
			return !is && f == noFault, e
		},
		"Events": func(p api.Prog, in []api.Rat, steps int) (bool, api.Errno) {
			l, e := run.Events(p, in, steps)
			return len(l) == 0, e
		},
	}
}

// TestP1_ErrorOfCheck: all functions with an input return the error of Check first.
func TestP1_ErrorOfCheck(t *testing.T) {
	p := program(t, strings.ReplaceAll(twoInputs, "-1/2", "{-1/2}"))
	bad := p
	bad.Tail = 99
	for _, c := range []struct {
		p     api.Prog
		in    string
		steps int
		e     api.Errno
	}{
		{bad, "1 1", 1, api.ErrArg}, {p, "1 1", 201, api.ErrRange}, {p, "1", 1, api.ErrArg}, {p, "1 y", 1, api.ErrForm}, {p, "1/3 1", 1, api.ErrRange},
		{p, "1 " + strings.Repeat("9", 2001), 1, api.ErrLong}, {bounded(t, 30), "", 200, api.ErrLong},
	} {
		for _, odd := range []bool{false, true} {
			for name, do := range withInput(odd) {
				if zero, e := do(c.p, rats(c.in), c.steps); !zero || e != c.e {
					t.Errorf("%s of %.60q, %d steps: zero %v, error %d, want %d", name, c.in, c.steps, zero, e, c.e)
				}
			}
		}
	}
}
