package run_test

import (
	"testing"

	"vernier/run"
)

// eventsOf expects the events of a program of the format f (3, 3) with the result r,
// for an input x.
func eventsOf(t *testing.T, mode, lines, x, want string) {
	t.Helper()
	p := program(t, "mode "+mode+"; format f 3 3; format s 8 24; input x : s from -100 to 100; "+lines+"; result r")
	expectEvents(t, mode+": "+lines+" for "+x, want)(run.Events(p, rats(x), 0))
}

// TestP5_6_Cancel: bits that a sum of inexact operands cancels.
func TestP5_6_Cancel(t *testing.T) {
	for _, c := range []struct{ lines, x, want string }{
		// a is x, rounded; it is not exact for 9/8, of which 1 is left.
		{"let a : f = f(x); let r : f = a - {3/4}", "9/8", "1 3 0 2"}, // 1 less 3/4 is 1/4
		{"let a : f = f(x); let r : f = {3/4} - a", "9/8", "1 3 0 2"},
		{"let a : f = f(x); let r : f = a - {3/4}", "1", ""},
		{"let a : f = f(x); let r : f = a - {1/2}", "9/8", ""}, // 1/2: 1 bit
		{"let a : f = f(x); let r : f = a - {7/8}", "9/8", "1 3 0 3"},
		{"let a : f = f(x); let r : f = a - {1}", "9/8", "1 3 0 3"}, // 0: P bits
		{"let a : f = f(x); let r : f = {1} - a", "9/8", "1 3 0 3"},
		{"let a : f = f(x); let r : f = {-1} + a", "9/8", "1 3 0 3"},
		{"let a : f = f(x); let r : f = {1} + a", "9/8", ""},
		{"let a : f = f(x); let r : f = {-1} - a", "9/8", ""},
		{"let a : f = f(x); let r : f = a - 0", "9/8", ""},
		{"let a : f = f(x); let b : f = a - a; let r : f = b", "9/8", "1 2 0 3"},
		{"let a : f = f(x); let b : f = {1/3}; let r : f = a - b", "1", ""}, // 5/16 is less than a half
		{"let b : f = {1/3}; let r : f = b - {3/8}", "1", "1 3 0 2"},
		{"let b : f = {1/3}; let r : s = b - {3/8}", "1", "1 3 0 2"},
		{"let b : f = {1/3}; let r : s = b - {5/16}", "1", "1 3 0 24"}, // of the format of the sum
		{"let b : f = {1/3}; let r : s = fma(b, {1}, -{5/16})", "1", ""},
		{"let b : f = f(x * x); let r : f = b - {4}", "2", ""},
	} {
		eventsOf(t, "even", c.lines, c.x, c.want)
	}
	// Whether an operand is exact is decided exactly, also if it is not plain.
	for _, c := range []struct{ lines, want string }{
		{"let a : s = sqrt(2); let r : s = a - {3/2}", "1 4 0 4"},
		{"let a : f = sqrt(2) * sqrt(2); let r : f = a - {2}", ""},              // 9/4 rounded to 2
		{"let a : f = sqrt(2) * sqrt(2) / 3; let r : f = a - {1/2}", "1 9 0 2"}, // 5/8 for 2/3
		{"let a : f = sqrt(4); let r : f = a - {2}", ""},                        // plain
	} {
		eventsOf(t, "even", c.lines, "1", c.want)
	}
}

// TestP5_6_Underflow: values below the least normal one that are rounded.
func TestP5_6_Underflow(t *testing.T) {
	for _, c := range []struct{ mode, lines, x, want string }{
		{"even", "let r : f = f(x)", "1/4", ""},
		{"even", "let r : f = f(x)", "3/16", ""}, // exact
		{"even", "let r : f = f(x)", "5/32", "2 1 0 0"},
		{"even", "let r : f = f(x)", "-5/32", "2 1 0 0"},
		{"even", "let r : f = f(x)", "9/32", ""},          // not below
		{"even", "let r : f = f(x)", "31/128", "2 1 0 0"}, // rounded to 1/4
		{"even", "let r : f = f(x)", "1/64", "2 1 0 0"},   // rounded to 0
		{"even", "let r : f = f(x)", "0", ""},
		{"down", "let r : f = f(x)", "31/128", "2 1 0 0"},
		{"even", "let r : f = -{1/5}", "0", "2 1 0 0"}, // OpConst; OpNeg of 3/16 is exact
		{"even", "let r : s = -{1/5}", "0", ""},
		{"even", "let r : f = abs(x)", "-5/32", "2 1 0 0"},
		{"even", "let r : f = -x", "5/32", "2 1 0 0"},
		{"even", "let r : f = x + x", "5/64", "2 1 0 0"},
		{"even", "let r : f = x - {1}", "27/32", "2 2 0 0"},
		{"even", "let r : f = x * x", "1/4", ""},
		{"even", "let r : f = x * x", "3/8", "2 1 0 0"},
		{"even", "let r : f = x / {12}", "1", "2 2 0 0"},
		{"even", "let r : f = x / {12}", "0", ""},
		{"even", "let r : f = min(x, {1})", "5/32", "2 2 0 0"},
		{"even", "let r : f = min(x, {1})", "5/4", ""},
		{"even", "let r : f = max(x, -{1})", "5/32", "2 3 0 0"},
		{"even", "let r : f = fma(x, x, {1/16})", "1/4", ""},
		{"even", "let r : f = fma(x, x, {1/16})", "1/8", "2 2 0 0"},
		{"even", "let r : f = if x <= {1} then x else {1}", "5/32", "2 3 0 0"},
		{"even", "let r : f = if {1} <= x then {1} else x", "5/32", "2 3 0 0"},
		{"even", "let r : f = if {1} <= x then x else {1/8}", "5/32", ""}, // x is not taken
		{"even", "let r : f = sqrt(x)", "1/64", ""},                       // 1/8
		{"even", "let r : f = sqrt(x)", "1/32", "2 1 0 0"},
		{"even", "let r : f = sqrt(x)", "1/16", ""}, // 1/4
		{"even", "let r : f = sqrt(x)", "3/32", ""}, // not below
		{"even", "let r : f = sqrt(x)", "1/4096", "2 1 0 0"},
		{"even", "let r : f = sqrt(x)", "0", ""},
		{"even", "let a : f = f(x); let r : f = a + a", "5/32", "2 1 0 0"}, // the operand is exact in F
	} {
		eventsOf(t, c.mode, c.lines, c.x, c.want)
	}
	states := program(t, "format f 3 3; state a : f = {1/5}; loop; next a = a / {1}; end; let r : f = a; result r")
	expectEvents(t, "a state has the value of another node", "2 0 0 0")(run.Events(states, nil, 2))
	// The value over the reals is that for the operands of F, not that of R: 1/5 there.
	p := program(t, "format f 3 3; let a : f = {1/5}; let b : f = a + {0}; let r : f = b; result r")
	expectEvents(t, "operands of F", "2 0 0 0")(run.Events(p, nil, 0))
}

// TestP5_6_Absorb: operands of sums that make no difference.
func TestP5_6_Absorb(t *testing.T) {
	for _, c := range []struct{ lines, x, want string }{
		{"let r : f = x + {1/16}", "4", "3 2 0 0"},
		{"let r : f = {1/16} + x", "4", "3 2 0 0"},
		{"let r : f = x - {1/16}", "4", "3 2 0 0"},
		{"let r : f = {1/16} - x", "4", "3 2 0 0"}, // the negative of x
		{"let r : f = x + {1}", "4", ""},
		{"let r : f = x + {0}", "4", ""},
		{"let r : f = {0} + x", "4", ""},
		{"let r : f = x - {0}", "4", ""},
		{"let r : f = {0} - x", "4", ""},
		{"let r : f = x - x", "0", ""},
		{"let r : f = x + x", "0", ""},
		{"let r : f = x + {1/16}", "0", ""},
		{"let r : f = {4} - x", "2", ""},   // 2 is B, and not its negative
		{"let r : f = x + {4}", "-2", ""},  // 2 is not an operand
		{"let r : f = {2} + x", "9/4", ""}, // 4
		{"let r : f = x * {1}", "4", ""},   // no sum
		{"let r : f = fma(x, {1}, {1/16})", "4", ""},
		{"let r : f = x + {1/16}", "9/8", ""},   // 5/4 for 19/16
		{"let r : f = x + {1/16}", "17/16", ""}, // 1: x is not in the format
	} {
		eventsOf(t, "even", c.lines, c.x, c.want)
	}
	eventsOf(t, "up", "let r : f = x - {1/16}", "4", "3 2 0 0")
	eventsOf(t, "down", "let r : f = x - {1/16}", "4", "")
}

// TestP5_6_Diverge: F and R take different operands.
func TestP5_6_Diverge(t *testing.T) {
	eventsOf(t, "even", "let a : f = f(x); let r : f = if a <= {1} then {1} else {2}", "9/8", "4 5 0 0")
	eventsOf(t, "even", "let a : f = f(x); let r : f = if a <= {1} then {1} else {2}", "1", "")
	eventsOf(t, "even", "let a : f = f(x); let r : f = if {1} <= a then {1} else {2}", "9/8", "")
	eventsOf(t, "even", "let a : f = f(x); let r : f = if {9/8} <= x then {1} else {2}", "9/8", "")
	eventsOf(t, "up", "let a : f = f(x); let r : f = if a <= {1} then {1} else {2}", "7/8", "")
	eventsOf(t, "even", "let a : f = sqrt(f(x)); let r : f = if a * a <= {2} then {1} else {2}", "2", "")
	eventsOf(t, "up", "let a : f = sqrt(f(x)); let r : f = if a * a <= {2} then {1} else {2}", "2", "4 7 0 0")
}

// TestP5_6_Order: events of one time come by their kinds; times in the order of the
// run, up to the first fault of both.
func TestP5_6_Order(t *testing.T) {
	// 5/32 is rounded to 1/8, and 1/64 to 0: no operand that is not 0 is absorbed.
	eventsOf(t, "even", "let b : f = f(x); let r : f = b - {1/64}", "5/32", "2 1 0 0; 2 2 0 0")
	tiny := program(t, "format f 3 3; format s 8 24; let a : s = {1/3}; let b : s = {1/3} + {1/1048576}; let r : f = a - b; result r")
	expectEvents(t, "two kinds at one time", "1 4 0 3; 2 4 0 0")(run.Events(tiny, nil, 0))
	loop := program(t, "format f 3 3; state a : f = {9/8}; loop; next a = a - {1/16}; end; let r : f = a + {1/32}; result r")
	expectEvents(t, "steps", "3 3 1 0; 3 3 2 0; 2 5 3 0")(run.Events(loop, nil, 2))
	expectEvents(t, "no step", "2 5 1 0")(run.Events(loop, nil, 0))
	faults := program(t, "format f 3 3; let a : f = 4 + {1/16}; let b : f = sqrt(4 - a); let c : f = 4 + {1/16}; let d : f = 14 + 14; let r : f = a + b + c + d; result r")
	expectEvents(t, "a fault in R", "3 2 0 0; 1 4 0 3")(run.Events(faults, nil, 0))
	faults = program(t, "format f 3 3; let a : f = 4 + {1/16}; let b : f = 1 / (4 - a); let c : f = 4 + {1/16}; let r : f = a + b + c; result r")
	expectEvents(t, "a fault in F", "3 2 0 0; 1 5 0 3")(run.Events(faults, nil, 0))
	faults = program(t, "format f 3 3; let a : f = 4 + {1/16}; let r : f = 1 / (a - a); result r")
	expectEvents(t, "a fault in both", "3 2 0 0; 1 4 0 3")(run.Events(faults, nil, 0))
	unneeded := program(t, "format f 3 3; let a : f = 4 + {1/16}; let r : f = 1; result r")
	expectEvents(t, "a node that is not needed", "")(run.Events(unneeded, nil, 0))
}
