package bounds_test

import (
	"strings"
	"testing"

	"vernier/api"
	"vernier/bounds"
	"vernier/lang"
	"vernier/proofs"
)

// TestP8_1_Check looks at the ends of what a plan may have.
func TestP8_1_Check(t *testing.T) {
	good := api.BdPlan{Bits: 30, Splits: 3, Widen: 3}
	for _, x := range []struct {
		change func(*api.BdPlan, int)
		values []int
		e      api.Errno
	}{
		{func(p *api.BdPlan, n int) { p.Bits = n }, []int{8, 9, 399, 400}, api.OK},
		{func(p *api.BdPlan, n int) { p.Bits = n }, []int{-1, 0, 7, 401, -1 << 62, 1 << 62}, api.ErrRange},
		{func(p *api.BdPlan, n int) { p.Splits = n }, []int{0, 1, 39, 40}, api.OK},
		{func(p *api.BdPlan, n int) { p.Splits = n }, []int{-1, 41, -1 << 62, 1 << 62}, api.ErrRange},
		{func(p *api.BdPlan, n int) { p.Widen = n }, []int{0, 1, 19, 20}, api.OK},
		{func(p *api.BdPlan, n int) { p.Widen = n }, []int{-1, 21, -1 << 62, 1 << 62}, api.ErrRange},
	} {
		for _, n := range x.values {
			for _, tried := range []bool{false, true} {
				plan := good
				plan.Mean, plan.Squares = tried, !tried
				x.change(&plan, n)
				if e := bounds.Check(plan); e != x.e {
					t.Errorf("%v: error %d, want %d", plan, e, x.e)
				}
			}
		}
	}
}

// of returns a program with one input x from 0 to 1 in the format h.
func of(t *testing.T, lines string) api.Prog {
	t.Helper()
	return program(t, "format h 5 11; format s 8 24; input x : h from 0 to 1;"+lines+"; result r")
}

// TestP8_2_Best: of all candidates the one with the least error, then the narrowest one, then
// the first one.
func TestP8_2_Best(t *testing.T) {
	both := api.BdPlan{Bits: 30, Mean: true, Squares: true}
	sub := "let a : h = x + 1; let r : h = a - x"
	for _, x := range []struct {
		what, lines, box, nodes string
		plan                    api.BdPlan
		node                    int
		want                    string
	}{
		// The nodes are 0 x, 1 the constant 1, 2 the sum, 3 the difference.
		{"rounded outward", sub, "0 1", "step 1/3 2/3 0; -; step 3 4 1/1000; -", api.BdPlan{Bits: 8}, 3, "step 149/64 235/64 65/32768"},
		{"exact", sub, "0 1", "step 2 3 0; -; step 2 3 1/1000; -", api.BdPlan{Bits: 8}, 3, "exact -1 1 33/32768"},
		{"exact at the end", sub, "0 1", "step 2 3 0; -; step 3 4 0; -", both, 3, "exact 0 2 0"},
		{"not exact", sub, "0 1", "step 2 3 0; -; step 3 32769/8192 0; -", api.BdPlan{Bits: 20}, 3, "step 0 16385/8192 1/1024"},
		{"mean is narrower", sub, "0 1", "step 0 1 0; step 1 1 0; step 1 2 1/1024; -", both, 3, "mean 1 1 3/2048"},
		{"mean is not tried", sub, "0 1", "step 0 1 0; step 1 1 0; step 1 2 1/1024; -", api.BdPlan{Bits: 30}, 3, "step 0 2 1/512"},
		{"a sum", sub, "0 1", "step 0 1 0; step 1 1 0; -; -", both, 2, "step 1 2 1/1024"},
		{"an input", sub, "0 1", "-; -; -; -", both, 0, "step 0 1 0"},
		{"an input is rounded", sub, "1/3 2/3", "-; -; -; -", api.BdPlan{Bits: 8}, 0, "step 85/256 171/256 0"},
		{"a constant", sub, "0 1", "-; -; -; -", both, 1, "step 1 1 0"},
		{"a lesser error by mean", "let r : h = x - x", "3 4", "step 3 4 0; -", api.BdPlan{Bits: 30, Mean: true}, 1, "mean 0 0 0"},
		{"squares", "let r : h = x * x - x", "0 1", "step 0 1 0; step 0 1 0; -", api.BdPlan{Bits: 30, Squares: true}, 2, "squares -1/2 0 1/4096 low 2 high 1"},
		{"low alone", "let r : h = x * x - x", "0 1", "step 0 1 0; step 0 0 0; -", api.BdPlan{Bits: 30, Squares: true}, 2, "squares -1/2 0 1/4096 low 2 high 0"},
		{"high alone", "let r : h = x * x - x", "0 1", "step 0 1/3 0; step 1/4 1 0; -", api.BdPlan{Bits: 30, Squares: true}, 2, "squares -715827883/8589934592 0 1/32768 low 0 high 1"},
		{"neither", "let r : h = x * x - x", "0 1", "step 0 1/2 0; step 0 0 0; -", api.BdPlan{Bits: 30, Squares: true}, 2, "step -1/2 0 1/4096"},
		{"ends of squares are not rounded", "let r : h = x * x - x", "0 1/3", "step 0 1/3 0; step 0 1/9 0; -", api.BdPlan{Bits: 8, Squares: true}, 2, "squares -2/9 0 1/16384 low 2 high 2"},
		{"the error is rounded up", "let r : h = x * x - x", "0 1", "step 0 1 1/7; step 0 1 0; -", both, 2, "squares -1/2 0 614615333/4294967296 low 2 high 1"},
		{"the first of both", "let r : h = x + x", "0 1", "step -1 2 0; -", both, 1, "mean 0 2 1/1024"},
	} {
		p := of(t, x.lines)
		expectClaim(t, x.what, x.want, api.OK)(bounds.Claim(p, spans(x.box), leaf(x.nodes, ""), x.node, x.plan))
	}
}

// TestP8_2_NoStep: a claim by another rule follows where that by PfStep does not.
func TestP8_2_NoStep(t *testing.T) {
	p := of(t, "let a : h = x + 1; let r : h = a - x")
	far := leaf("step 131008 132000 0; -; step 262000 262016 0; -", "")
	expectClaim(t, "a great difference", "exact 130000 131008 0", api.OK)(bounds.Claim(p, spans("0 1"), far, 3, api.BdPlan{Bits: 30}))
	farther := leaf("step 131007 132000 0; -; step 262000 262016 0; -", "")
	expectClaim(t, "a greater one", "", proofs.ErrFault)(bounds.Claim(p, spans("0 1"), farther, 3, api.BdPlan{Bits: 30}))
	q := of(t, "let r : h = x - x")
	mean := api.BdPlan{Bits: 30, Mean: true}
	expectClaim(t, "by mean", "mean 0 0 0", api.OK)(bounds.Claim(q, spans("-40000 -40000"), leaf("step -40000 40000 0; -", ""), 1, mean))
	expectClaim(t, "without", "", proofs.ErrFault)(bounds.Claim(q, spans("-40000 40000"), leaf("step -40000 40000 0; -", ""), 1, api.BdPlan{Bits: 30, Squares: true}))
	expectClaim(t, "no step is possible", "", proofs.ErrFault)(bounds.Claim(of(t, "let r : h = 1 / x"), spans("0 1"), leaf("step 0 1 0; step 1 1 0; -", ""), 2, api.BdPlan{Bits: 30, Mean: true, Squares: true}))
}

// TestP8_2_WrongWayRound: where the claims of operands are wrong, those of rules may leave no
// number. They are candidates nevertheless.
func TestP8_2_WrongWayRound(t *testing.T) {
	p := of(t, "let r : h = 1 / x")
	// The quotient is from 0 to 1 by the claims, and around 2 by the middle of the box.
	l := leaf("step 1 1 0; step 0 1 0; -", "")
	expectClaim(t, "by mean", "mean 3/2 1 1/2048", api.OK)(bounds.Claim(p, spans("0 1"), l, 2, api.BdPlan{Bits: 30, Mean: true}))
}

// TestP8_2_Long: claims that are too long are no candidates.
func TestP8_2_Long(t *testing.T) {
	plan := api.BdPlan{Bits: 8, Mean: true, Squares: true}
	// The numbers of 8 bits next to it have a power of two with 2002 digits.
	tiny := "{1/" + digits(2000) + "}"
	p := of(t, "let r : h = "+tiny)
	expectClaim(t, "a constant", "", api.ErrLong)(bounds.Claim(p, spans("0 1"), leaf("-; -", ""), 1, plan))
	expectLeaf(t, "a constant", "", api.ErrLong)(bounds.Leaf(p, spans("0 1"), plan))
	expectProof(t, "a constant", p, "", "", api.ErrLong)(bounds.Derive(p, plan))
	// A claim whose ends squares prove is not rounded, but is too long as if it were.
	curve := func(c string) api.Prog { return of(t, "let r : h = x - x * x + "+c) }
	half := "1/" + twoTo(6640).RatString()
	p = curve("{" + half + "}")
	l := leaf("step 0 1 0; step 0 1 0; step -1 1 0; step "+half+" "+half+" 0; -", "")
	got, e := bounds.Claim(p, spans("0 1"), l, 4, plan)
	if e != api.OK || got.Rule != api.PfSquares || got.Lo != api.Rat(half) || len(got.Low) != 1 || len(got.High) != 2 {
		t.Errorf("a power of two: %.300s, error %d", claimsText(got), e)
	}
	small := strings.Trim(tiny, "{}")
	p = curve(tiny)
	l = leaf("step 0 1 0; step 0 1 0; step -1 1 0; step "+small+" "+small+" 0; -", "")
	expectClaim(t, "a power of ten", "mean -1/4 193/256 1/4096", api.OK)(bounds.Claim(p, spans("0 1"), l, 4, plan))
	plan.Mean = false
	expectClaim(t, "a power of ten", "step -1 129/128 1/2048", api.OK)(bounds.Claim(p, spans("0 1"), l, 4, plan))
}

// TestP8_2_Errors: the error of the plan comes before that of the program, then come those of
// the box and those of Tight.
func TestP8_2_Errors(t *testing.T) {
	plan := api.BdPlan{Bits: 30, Mean: true, Squares: true}
	p := program(t, "format h 5 11; input x : h from 0 to 1; state a : h = x; loop; let u : h = a + x; next a = a / 2; end; let r : h = a - x; result r")
	// The nodes are 0 x, 1 the state, 2 u, 3 the constant 2, 4 the quotient, 5 the state, 6 r.
	box := boxOf(p)
	nodes := "step 0 1 0; step 0 1 0; -; step 2 2 0; step 0 1/2 0; step 0 1 0; -"
	l := leaf(nodes, "state 0 1 0")
	expectClaim(t, "no error", "mean -3/4 1/4 1/4096", api.OK)(bounds.Claim(program(t, "format h 5 11; input x : h from 0 to 1; let y : h = x; let r : h = x * x - y; result r"), box, leaf("step 0 1 0; step 0 1 0; -", ""), 2, api.BdPlan{Bits: 30, Mean: true}))
	for _, x := range []struct {
		what string
		box  []api.Span
		l    api.PfItem
		node int
		plan api.BdPlan
		want string
		e    api.Errno
	}{
		{"r", box, l, 6, plan, "step -1 1 1/2048", api.OK},
		{"the state", box, l, 1, plan, "step 0 1 0", api.OK},
		{"no valid plan", nil, api.PfItem{}, -1, api.BdPlan{Bits: 7}, "", api.ErrRange},
		{"no span", nil, api.PfItem{}, -1, plan, "", api.ErrArg},
		{"no number", spans("1 x"), api.PfItem{}, -1, plan, "", api.ErrForm},
		{"a long number", []api.Span{{Lo: "2", Hi: api.Rat(digits(2001))}}, api.PfItem{}, -1, plan, "", api.ErrLong},
		{"no span in order", spans("1 0"), api.PfItem{}, -1, plan, "", api.ErrRange},
		{"no node", box, api.PfItem{}, -1, plan, "", api.ErrRange},
		{"no node", box, api.PfItem{}, 7, plan, "", api.ErrRange},
		{"not needed", box, api.PfItem{}, 2, plan, "", api.ErrRange},
		{"no claims", box, api.PfItem{}, 6, plan, "", api.ErrArg},
		{"too few claims", box, leaf("-; -; -; -; -; -", "-"), 6, plan, "", api.ErrArg},
		{"too many claims", box, leaf("-; -; -; -; -; -; -; -", "-"), 6, plan, "", api.ErrArg},
		{"too few states", box, leaf(nodes, ""), 6, plan, "", api.ErrArg},
		{"too many states", box, leaf(nodes, "-; -"), 6, plan, "", api.ErrArg},
		{"no claim of an operand", box, leaf("step 0 1 0; -; -; -; -; -; -", "-"), 6, plan, "", proofs.ErrClaim},
		{"no claim of the state", box, leaf(nodes, "-"), 5, plan, "", proofs.ErrClaim},
		{"no fault", box, leaf("-; step 0 1 0; -; step 2 2 0; -; -; -", "-"), 4, plan, "step 0 1/2 1/4096", api.OK},
		{"a fault", box, leaf("-; step 0 1 0; -; step 0 2 0; -; -; -", "-"), 4, plan, "", proofs.ErrFault},
	} {
		expectClaim(t, x.what, x.want, x.e)(bounds.Claim(p, x.box, x.l, x.node, x.plan))
	}
	broken := p
	broken.Result = 99
	expectClaim(t, "no valid plan", "", api.ErrRange)(bounds.Claim(broken, nil, l, 6, api.BdPlan{}))
	broken.Formats = nil
	expectClaim(t, "no valid program", "", api.ErrArg)(bounds.Claim(broken, nil, l, 6, plan))
	broken.Formats = make([]api.Format, 7)
	expectClaim(t, "no valid plan", "", api.ErrRange)(bounds.Claim(broken, nil, l, 6, api.BdPlan{Bits: 30, Splits: 41}))
	if _, _, e := lang.Check(broken); e != api.ErrLong {
		t.Errorf("Check: error %d", e)
	}
}

// TestP8_2_Itself: it makes no difference what the leaf says of the node itself, or of nodes
// that are not asked for.
func TestP8_2_Itself(t *testing.T) {
	p := of(t, "let a : h = x * x; let r : h = a - x")
	plan := api.BdPlan{Bits: 30, Squares: true}
	for _, itself := range []api.PfClaim{
		{}, {Rule: 99, Lo: "x"}, {Rule: api.PfStep, Lo: "5", Hi: "4", Err: "-1"}, {Rule: api.PfExact, Lo: "0", Hi: "1", Err: "0"},
		{Rule: api.PfStep, Low: make([]api.PfSquare, 21), High: make([]api.PfSquare, 1)}, {Rule: api.PfSquares, Low: make([]api.PfSquare, 2)},
	} {
		l := leaf("step 0 1 0; step 0 1 1/4096; -", "")
		l.Claims[2] = itself
		l.Kind, l.Input, l.At = 77, -5, "?"
		before := dump(l)
		expectClaim(t, dump(itself), "squares -1/2 0 1/2048 low 2 high 1", api.OK)(bounds.Claim(p, boxOf(p), l, 2, plan))
		l.Claims[2], l.Claims[0] = api.PfClaim{}, itself
		expectClaim(t, dump(itself), "step 0 1 0", api.OK)(bounds.Claim(p, boxOf(p), l, 0, plan))
		l.Claims[2], l.Claims[0] = itself, leaf("step 0 1 0", "").Claims[0]
		if dump(l) != before {
			t.Errorf("the leaf has become another one: %s", dump(l))
		}
	}
}
