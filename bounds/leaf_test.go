package bounds_test

import (
	"fmt"
	"testing"

	"vernier/api"
	"vernier/bounds"
	"vernier/lang"
	"vernier/proofs"
)

// TestP8_3_Leaf: the claims of needed nodes, over any box.
func TestP8_3_Leaf(t *testing.T) {
	p := of(t, "let u : h = x + 2; let a : h = x * x; let v : s = sqrt(a); let r : h = a - x")
	plan := api.BdPlan{Bits: 8, Mean: true}
	// The nodes are 0 x, 1 the constant, 2 u, 3 a, 4 v, 5 r.
	expectLeaf(t, "the box of the program", "step 0 1 0; -; -; step 0 1 1/2048; -; mean -3/4 1/4 3/4096 | ", api.OK)(bounds.Leaf(p, boxOf(p), plan))
	expectLeaf(t, "another box", "step 100 100 0; -; -; step 9984 10048 4; -; mean 9856 9920 8 | ", api.OK)(bounds.Leaf(p, spans("100 100"), plan))
	expectLeaf(t, "a box with a fault", "", proofs.ErrFault)(bounds.Leaf(p, spans("0 300"), plan))
	expectStates(t, "no states", "", api.OK)(bounds.States(p, boxOf(p), plan))
	q := program(t, "format h 5 11; let r : h = 1 / 3; result r")
	expectLeaf(t, "no inputs", "step 1 1 0; step 3 3 0; step 85/256 171/512 1/8192 | ", api.OK)(bounds.Leaf(q, nil, plan))
}

// A program with states that nothing needs, and one that is needed for another one alone.
const manyStates = "format h 5 11; input x : h from 0 to 1; state a : h = x; state b : h = x; state c : h = x;" +
	"loop; let d : h = 1 / b; next a = c; next b = d; next c = c / 2; end; let r : h = a + 1; result r"

// TestP8_3_States: the claims of needed states, and of the nodes after the loop.
func TestP8_3_States(t *testing.T) {
	p := program(t, manyStates)
	plan := api.BdPlan{Bits: 30, Widen: 3}
	// The second claim of the state a has the error 3/2048, and shrinks.
	states := "state 0 1 1/2048; -; state 0 1 1/2048"
	expectStates(t, "states", states, api.OK)(bounds.States(p, boxOf(p), plan))
	// x; a, b, c in the body; 1, d, 2, the quotient; a, b, c in the rest; 1, r.
	nodes := "step 0 1 0; -; -; step 0 1 1/2048; -; -; step 2 2 0; step 0 1/2 1/2048; step 0 1 1/2048; -; -; step 1 1 0; step 1 2 3/2048"
	expectLeaf(t, "a leaf", nodes+" | "+states, api.OK)(bounds.Leaf(p, boxOf(p), plan))
	plan.Widen = 1
	expectLeaf(t, "a round too few", "", bounds.ErrWiden)(bounds.Leaf(p, boxOf(p), plan))
}

// TestP8_3_Rounds: as many rounds as the plan says; the claims of states go beyond what a step
// makes of them by powers of two, and shrink three times.
func TestP8_3_Rounds(t *testing.T) {
	for _, x := range []struct {
		what, next string
		bits       int
		rounds     int // but the first one
		states     string
	}{
		{"closed at once", "t", 30, 0, "state 0 1 0"},
		{"closed at once", "x", 30, 0, "state 0 1 0"},
		{"closed at once, lesser", "x * 0", 30, 0, "state 0 1 0"},
		// Next has the errors 3, 9 and 27/2, all of 2^-12, the state 0, 6, 15; then, each time it
		// shrinks, 27/2, 51/4, 99/8, where Next would have 195/16.
		{"up to 2", "t / 2 + 1", 30, 2, "state 0 2 99/32768"},
		// All of these have 8 bits.
		{"up to 2, few bits", "t / 2 + 1", 8, 2, "state 0 2 99/32768"},
		// Next is from -1/2 to 0, then, of -1 to 1, from -1/2 to 1/2, then, of -1/2 to 1, to 1/4.
		{"around 0", "-t / 2", 30, 1, "state -1/2 1 1/2048"},
		{"never", "t + 1", 30, 9, ""},
	} {
		p := of(t, "state t : h = x; loop; next t = "+x.next+"; end; let r : h = t")
		box := boxOf(p)
		for widen := range 9 {
			want, e := x.states, api.OK
			if widen < x.rounds {
				e = bounds.ErrWiden
			}
			expectStates(t, fmt.Sprint(x.what, ": ", widen), want, e)(bounds.States(p, box, api.BdPlan{Bits: x.bits, Widen: widen}))
		}
	}
}

// TestP8_3_NoShrink: the claims of states stay what they are, if those that they would shrink
// to have an error.
func TestP8_3_NoShrink(t *testing.T) {
	// What is below a small number by far is multiplied by itself: this would be too long.
	p := program(t, "format d 11 53; input x : d from 0 to 1;"+
		"state t : d = x + {"+string(toText(twoTo(-3000)))+"}; state w : d = x;"+
		"loop; next t = {"+string(toText(twoTo(-3400)))+"}; next w = t * t; end; let r : d = w + t; result r")
	plan := api.BdPlan{Bits: 8, Widen: 2}
	l, e := bounds.States(p, boxOf(p), plan)
	if e != api.OK {
		t.Fatalf("States: error %d", e)
	}
	want := down(less(twoTo(-3399), twoTo(-3000)), 8)
	if l[0].Lo != toText(want) {
		t.Errorf("the state begins at %.60s", l[0].Lo)
	}
	if want := down(times(rat(-3, 1), times(twoTo(-3000), rat(129, 128))), 8); l[1].Lo != toText(want) {
		t.Errorf("the other state begins at %.60s", l[1].Lo)
	}
	q := program(t, "format d 11 53; input x : d from 0 to 1;"+
		"state t : d = x + {"+string(toText(twoTo(-3000)))+"}; state w : d = x;"+
		"loop; next t = {"+string(toText(twoTo(-3300)))+"}; next w = t * t; end; let r : d = w + t; result r")
	if l, e = bounds.States(q, boxOf(q), plan); e != api.OK || l[0].Lo != toText(twoTo(-3300)) || l[1].Lo != "0" {
		t.Errorf("the states shrink to %.60s, %.60s, error %d", l[0].Lo, l[1].Lo, e)
	}
}

// TestP8_3_Errors: of the plan, of the program, of the box, and then the first one of a claim.
func TestP8_3_Errors(t *testing.T) {
	plan := api.BdPlan{Bits: 30, Widen: 2}
	loop := func(head, body, rest string) api.Prog {
		return of(t, "state t : h = x; "+head+"; loop; "+body+"; end; "+rest)
	}
	tiny := "{1/" + digits(2000) + "}"
	ok := loop("", "next t = t", "let r : h = t + 1")
	for _, x := range []struct {
		what string
		p    api.Prog
		box  []api.Span
		plan api.BdPlan
		e    api.Errno
	}{
		{"no error", ok, spans("0 1"), plan, api.OK},
		{"no plan", api.Prog{}, nil, api.BdPlan{}, api.ErrRange},
		{"no program", api.Prog{}, nil, plan, api.ErrArg},
		{"no box", ok, nil, plan, api.ErrArg},
		{"two spans", ok, spans("1 0, 0 1"), plan, api.ErrArg},
		{"no number", ok, spans("0 2/4"), plan, api.ErrForm},
		{"a long number", ok, spans("-" + digits(2001) + " 2/4"), plan, api.ErrLong},
		{"no span in order", ok, spans("1 0"), plan, api.ErrRange},
		{"in the head", loop("let u : h = 1 / x", "next t = t * 2", "let r : h = t + u + "+tiny), spans("0 1"), plan, proofs.ErrFault},
		{"in the head, long", loop("let u : h = x + "+tiny, "next t = t * 2 / x", "let r : h = t + u"), spans("0 1"), plan, api.ErrLong},
		{"in the first round", loop("", "next t = 1 / t", "let r : h = t + "+tiny), spans("0 1"), plan, proofs.ErrFault},
		{"in the second round", loop("", "next t = 1 / (t - 0.5) + 1", "let r : h = t + "+tiny), spans("3/4 1"), plan, proofs.ErrFault},
		{"too many rounds", loop("", "next t = t + 1", "let r : h = 1 / (t - t)"), spans("0 1"), plan, bounds.ErrWiden},
		{"in the rest", loop("", "next t = t", "let r : h = 1 / (t - t)"), spans("0 1"), plan, proofs.ErrFault},
		{"in the rest, long", loop("", "next t = t", "let r : h = t + "+tiny), spans("0 1"), plan, api.ErrLong},
		{"the first one of both", loop("let u : h = 1 / x; let v : h = x + "+tiny, "next t = t", "let r : h = u + v"), spans("0 1"), plan, proofs.ErrFault},
		{"the first one of both", loop("let v : h = x + "+tiny+"; let u : h = 1 / x", "next t = t", "let r : h = u + v"), spans("0 1"), plan, api.ErrLong},
		{"what is not needed", loop("let u : h = 1 / (x - x); let v : h = x + "+tiny, "let w : h = 1 / 0; next t = t", "let z : h = 1 / 0; let r : h = t"), spans("0 1"), plan, api.OK},
	} {
		l, e := bounds.Leaf(x.p, x.box, x.plan)
		if e != x.e || e != api.OK && dump(l) != dump(api.PfItem{}) {
			t.Errorf("%s: error %d, want %d", x.what, e, x.e)
		}
		states, e := bounds.States(x.p, x.box, x.plan)
		if e != x.e || dump(states) != dump(l.States) {
			t.Errorf("States: %s: error %d, want %d", x.what, e, x.e)
		}
	}
}

// TestP8_3_LongStates: claims of states may become too long where they grow: the one of a
// range that squares prove is not rounded, and may be all but twice as far from 0 as the next
// one.
func TestP8_3_LongStates(t *testing.T) {
	// The number 3/2, a little more, and very little more, by which x - x^2 is less.
	c := plus(plus(rat(3, 2), twoTo(-20)), toRat(api.Rat("1/"+digits(1991))))
	p := of(t, "state t : h = x - x * x - {"+string(toText(c))+"}; loop; next t = t / 2; end; let r : h = t")
	box := spans("0 1")
	for _, x := range []struct {
		plan api.BdPlan
		e    api.Errno
	}{
		{api.BdPlan{Bits: 400, Squares: true}, bounds.ErrWiden},
		{api.BdPlan{Bits: 400, Squares: true, Widen: 1}, api.ErrLong},
		{api.BdPlan{Bits: 400, Squares: true, Widen: 20}, api.ErrLong},
		{api.BdPlan{Bits: 400, Widen: 20}, api.OK},
		{api.BdPlan{Bits: 8, Squares: true, Widen: 20}, api.OK},
	} {
		_, e := bounds.States(p, box, x.plan)
		if e != x.e {
			t.Errorf("%v: error %d, want %d", x.plan, e, x.e)
		}
	}
	q, e := lang.Sub(p, 4)
	if e != api.OK {
		t.Fatalf("Sub: error %d", e)
	}
	l, e := bounds.Leaf(q, box, api.BdPlan{Bits: 400, Squares: true})
	if hi := l.Claims[4].Hi; e != api.OK || number(t, hi).Digits() < 1990 {
		t.Errorf("the state begins with %.60s.., error %d", hi, e)
	}
}
