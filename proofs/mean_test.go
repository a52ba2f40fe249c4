package proofs_test

import (
	"fmt"
	"slices"
	"testing"

	"vernier/api"
	"vernier/exact"
	"vernier/proofs"
)

// TestP7_4_Forms: the value in the middle and the derivatives of each operation.
func TestP7_4_Forms(t *testing.T) {
	for _, x := range []struct {
		expr, box, claims, want string
	}{
		{"x", "1 3, 0 0, 0 0", "", "1 3"},
		{"5/4", "1 3, 0 0, 0 0", "", "5/4 5/4"},
		{"-x", "1 3, 0 0, 0 0", "1 3 0", "-3 -1"},
		{"s(x)", "1 3, 0 0, 0 0", "1 3 0", "1 3"},
		{"x + y", "1 3, 0 1, 0 0", "1 3 0, 0 1 0", "1 4"},
		{"x - y", "1 3, 0 1, 0 0", "1 3 0, 0 1 0", "0 3"},
		{"x + x", "1 3, 0 1, 0 0", "1 3 0, 0 1 0", "2 6"},
		{"x - x", "1 3, 0 1, 0 0", "1 3 0, 0 1 0", "0 0"},
		// 2 times 1/2; the derivatives are the other one's claim: 0 to 1, times 1, and 1 to 3, times 1/2.
		{"x * y", "1 3, 0 1, 0 0", "1 3 0, 0 1 0", "-3/2 7/2"},
		{"x * y", "1 3, 0 1, 0 0", "-1 5 0, -2 1 9", "-7/2 11/2"}, // what is claimed, not the box
		{"x * x", "1 2, 0 0, 0 0", "1 2 0", "1/4 17/4"},
		{"fma(x, y, z)", "1 3, 0 1, -1 1", "1 3 0, 0 1 0, -1 1 0", "-5/2 9/2"},
		{"fma(x, x, x)", "1 2, 0 0, 0 0", "1 2 0", "5/4 25/4"}, // 15/4, and 2 x + 1 up to 5
		// 2 by 3/2; y / y^2 is from 1/4 to 2, and x / y^2 from 1/4 to 3.
		{"x / y", "1 3, 1 2, 0 0", "1 3 0, 1 2 0", "-13/6 29/6"},
		{"x / y", "1 3, 1 2, 0 0", "1 3 0, 0 2 0", ""},
		{"x / y", "1 3, 1 2, 0 0", "1 3 0, -1 2 0", ""},
		{"x / y", "1 3, 1 2, 0 0", "1 3 0, -2 -1 0", "-13/6 29/6"},
		{"x / y", "1 3, -1 1, 0 0", "1 3 0, 1 2 0", ""},
		// The root is enclosed; r + r is from 2 to 6, and half the width 4.
		{"sqrt(x)", "1 9, 0 0, 0 0", "1 9 0", "sqrt 5 2"},
		{"sqrt(x)", "0 8, 0 0, 0 0", "1/4 9 0", "-2 6"},
		{"sqrt(x)", "0 8, 0 0, 0 0", "0 8 0", ""},
		{"sqrt(x)", "0 8, 0 0, 0 0", "-1 8 0", ""},
		{"sqrt(x)", "-8 6, 0 0, 0 0", "1 9 0", ""},
		{"abs(x)", "1 3, 0 0, 0 0", "1 3 0", "rule"},
		{"min(x, y)", "1 3, 0 0, 0 0", "1 3 0, 1 1 0", "rule"},
		{"max(x, y)", "1 3, 0 0, 0 0", "1 3 0, 1 1 0", "rule"},
		{"if x <= y then z else x", "1 3, 0 0, 0 0", "1 3 0, 1 1 0, 1 1 0", "rule"},
	} {
		p := of(t, "let r : s = "+x.expr)
		if x.expr == "5/4" {
			p = of(t, "let r : s = {5/4}")
		}
		l := api.PfItem{Claims: make([]api.PfClaim, len(p.Nodes))}
		for i, s := range splitWords(x.claims) {
			if len(s) == 3 {
				l.Claims[i] = api.PfClaim{Lo: s[0], Hi: s[1], Err: s[2]}
			}
		}
		l.Claims[p.Result] = api.PfClaim{Lo: "any"}
		want, e := x.want, api.OK
		switch {
		case want == "" || want == "rule":
			want, e = "", proofs.ErrRule
		case want == "sqrt 5 2":
			want = fmt.Sprint(toText(less(rootDown(rat(5, 1)), rat(2, 1))), " ", toText(plus(rootUp(rat(5, 1)), rat(2, 1))))
		}
		expectMean(t, x.expr+" over "+x.box+" with "+x.claims, want, e)(proofs.Mean(p, spans(x.box), l, p.Result))
	}
}

// TestP7_4_Middle: a divisor and a root in the middle are told by enclosures there, not by
// claims.
func TestP7_4_Middle(t *testing.T) {
	// The divisor is x - 1, which is 0 in the middle, whatever is claimed of it.
	p := program(t, "format s 8 24; input x : s from 0 to 2; let one : s = 1; let a : s = x - one; let r : s = one / a; result r")
	l := leaf(t, "step 0 2 0; step 1 1 0; step 1 2 0; -", "")
	expectMean(t, "a divisor 0", "", proofs.ErrRule)(proofs.Mean(p, spans("0 2"), l, 3))
	expectMean(t, "a divisor above 0", "-140/169 400/169", api.OK)(proofs.Mean(p, spans("2 13/5"), leaf(t, "step 0 2 0; step 1 1 0; step 13/30 2 0; -", ""), 3))
	l.Claims[2] = api.PfClaim{Lo: "x"}
	expectMean(t, "no claim", "", proofs.ErrClaim)(proofs.Mean(p, spans("0 2"), l, 3))
	expectMean(t, "no claim of the node itself", "-1 1", api.OK)(proofs.Mean(p, spans("0 2"), l, 2))
}

// TestP7_4_NoInputs: without inputs there are no derivatives, and so no divisors in them.
func TestP7_4_NoInputs(t *testing.T) {
	p := program(t, "format s 8 24; let a : s = 3; let b : s = 4; let r : s = a / b; result r")
	l := leaf(t, "step 3 3 0; step -4 4 0; -", "")
	expectMean(t, "no inputs", "3/4 3/4", api.OK)(proofs.Mean(p, nil, l, 2))
	p = program(t, "format s 8 24; input x : s from 0 to 1; let a : s = 3; let b : s = 4; let r : s = a / b; result r")
	l = leaf(t, "-; step 3 3 0; step -4 4 0; -", "")
	expectMean(t, "an input", "", proofs.ErrRule)(proofs.Mean(p, spans("0 1"), l, 3))
	l.Claims[2].Lo = "4"
	expectMean(t, "an input", "3/4 3/4", api.OK)(proofs.Mean(p, spans("0 1"), l, 3))
	// A constant is its Value, even if it overflows.
	p = program(t, "format h 5 11; let a : h = 70000; let r : h = -a; result r")
	expectMean(t, "a great constant", "-70000 -70000", api.OK)(proofs.Mean(p, nil, leaf(t, "step 0 0 0; -", ""), 1))
}

// TestP7_4_Order: the errors of Mean, in their order.
func TestP7_4_Order(t *testing.T) {
	p := of(t, "let w : s = x + x; let a : s = y / x; let b : s = abs(y); let c : s = a * b; let r : s = c + a")
	box := spans("1 2, 1 2, 1 2")
	mean := func(name string, node int, box []api.Span, e api.Errno, edit func(l *api.PfItem)) {
		t.Helper()
		l := api.PfItem{Claims: claims(t, "9 1 2 0; 9 1 2 0; -; -; 9 1/2 2 0; 9 1 2 0; 9 0 1 0; 9 0 1 0")}
		edit(&l)
		if lo, hi, got := proofs.Mean(p, box, l, node); got != e || e != api.OK && (lo.Sign() != 0 || hi.Sign() != 0) {
			t.Errorf("%s: error %d, want %d", name, got, e)
		}
	}
	none := func(l *api.PfItem) { l.Claims = nil }
	mean("right", 4, box, api.OK, func(l *api.PfItem) {})
	mean("the states are not looked at", 4, box, api.OK, func(l *api.PfItem) { l.States, l.Kind, l.At = l.Claims, 7, "x" })
	mean("fewer spans", 9, box[1:], api.ErrArg, none)
	mean("no number", 9, spans("2 1, 1 2, x 1"), api.ErrForm, none)
	mean("a span with its ends in the other order", 9, spans("1 2, 2 1, 1 2"), api.ErrRange, none)
	mean("no node", 8, box, api.ErrRange, none)
	mean("a node below 0", -1, box, api.ErrRange, none)
	mean("a node that is not needed", 3, box, api.ErrRange, none)
	mean("an input that is not needed", 2, box, api.ErrRange, none)
	mean("no claims", 4, box, api.ErrArg, none)
	mean("more claims", 5, box, api.ErrArg, func(l *api.PfItem) { l.Claims = append(l.Claims, api.PfClaim{}) })
	mean("not smooth", 5, box, proofs.ErrRule, func(l *api.PfItem) { l.Claims[1].Lo = "x" })
	mean("not smooth below", 7, box, proofs.ErrRule, func(l *api.PfItem) { l.Claims[1].Lo = "x" })
	mean("a claim of an operand", 4, box, proofs.ErrClaim, func(l *api.PfItem) { l.Claims[0].Lo = "5" })
	mean("a claim of an operand", 4, box, proofs.ErrClaim, func(l *api.PfItem) { l.Claims[1].Err = "-1" })
	mean("a claim of an operand", 4, box, proofs.ErrClaim, func(l *api.PfItem) { l.Claims[1].Hi, l.Claims[0].Lo = "", "-1" })
	mean("claims of others", 4, box, api.OK, func(l *api.PfItem) { l.Claims[5].Lo, l.Claims[4].Err, l.Claims[2].Hi = "x", "x", "x" })
	// A claim of an operand of an operand.
	q := of(t, "let a : s = x * x; let b : s = a * a; let r : s = -b")
	l := api.PfItem{Claims: claims(t, "9 x 2 0; -; -; 9 1 4 0; 9 1 16 0; -")}
	expectMean(t, "a claim far below", "", proofs.ErrClaim)(proofs.Mean(q, box, l, 5))
	expectTight(t, "PfStep", "-16 -1 0", api.OK)(proofs.Tight(q, box, api.PfItem{Claims: append(slices.Clone(l.Claims[:5]), api.PfClaim{Rule: api.PfStep})}, 5))
	expectTight(t, "PfMean", "", proofs.ErrClaim)(proofs.Tight(q, box, api.PfItem{Claims: append(slices.Clone(l.Claims[:5]), api.PfClaim{Rule: api.PfMean})}, 5))
}

// TestP7_4_Tight: a mean value form meets the range of the step, and its ends decide on the
// rounding.
func TestP7_4_Tight(t *testing.T) {
	p := program(t, "format h 5 11; input x : h from 1 to 2; let a : h = x * x; result a")
	// Around 9/4 by 1/2 times the size of 2 times the claim.
	for _, x := range []struct{ claim, want string }{
		{"1 2 0", "1 4 1/512"},
		{"1/4 1/2 0", "7/4 1/4 1/2048"}, // it does not meet 1/16 to 1/4
		{"1 3/2 0", "1 9/4 1/1024"},
		{"-1 2 0", "1/4 4 1/512"},
	} {
		l := leaf(t, "step "+x.claim+"; mean x x x", "")
		expectTight(t, x.claim, x.want, api.OK)(proofs.Tight(p, spans("1 2"), l, 1))
	}
	// A node without operands.
	l := leaf(t, "mean x x x; -", "")
	expectTight(t, "an input", "1 2 0", api.OK)(proofs.Tight(p, spans("1 2"), l, 0))
}

// TestP7_4_Powers: squares of squares have forms as long as their texts are no longer than
// a result may be; a greater exponent of 2 is none that fits.
func TestP7_4_Powers(t *testing.T) {
	p := api.Prog{Formats: []api.Format{{E: 11, P: 53}}, Inputs: []api.Input{{Lo: "0", Hi: "1/2"}}, Nodes: []api.Node{{Op: api.OpInput}}}
	for i := range 63 {
		p.Nodes = append(p.Nodes, api.Node{Op: api.OpMul, A: i, B: i})
	}
	p.Head, p.Tail, p.Result = 64, 64, 63
	l := api.PfItem{Claims: slices.Repeat(claims(t, "mean 0 1/2 0"), 64)}
	lo, hi, e := proofs.Mean(p, spans("0 1/2"), l, 20)
	// 4^(-2^20), and what the derivative makes of it: 1, over half of the width.
	middle, _ := exact.Two(-16384)
	for range 7 {
		middle = middle.Mul(middle)
	}
	quarter := number(t, "1/4")
	if e != api.OK || lo.Cmp(middle.Sub(quarter)) != 0 || hi.Cmp(middle.Add(quarter)) != 0 {
		t.Errorf("Mean of 20 squares: error %d", e)
	}
	// The form of the last one would have the exponent -2^64.
	for _, node := range []int{36, 62, 63} {
		expectMean(t, "Mean of many squares", "", proofs.ErrRule)(proofs.Mean(p, spans("0 1/2"), l, node))
		expectTight(t, "Tight of many squares", "", proofs.ErrRule)(proofs.Tight(p, spans("0 1/2"), l, node))
	}
}
