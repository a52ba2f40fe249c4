package run_test

import (
	"fmt"
	"strings"
	"testing"

	"vernier/api"
	"vernier/reals"
	"vernier/run"
)

// digits returns a row of digits for a whole number with so many of them: a power
// of 10.
func digits(count int) string { return "1" + strings.Repeat("0", count-1) }

// realOf calls Real for a program without inputs, in a format that has most numbers
// of the tests.
func realOf(t *testing.T, lines string, steps int) ([]api.RlNode, int, api.RnFault, api.Errno) {
	t.Helper()
	return run.Real(program(t, "format s 11 53; "+lines+"; result r"), nil, steps)
}

// TestP5_3_List: what is appended for each operation.
func TestP5_3_List(t *testing.T) {
	for _, c := range []struct {
		lines, want string
		at          int
	}{
		{"let r : s = 3", "3", 0},
		{"let r : s = {1/3} * 6 - 1", "1", 0},
		{"let r : s = sqrt({9/4})", "3/2", 0},
		{"let r : s = sqrt(0)", "0", 0},
		{"let r : s = sqrt(2)", "2; root 0", 1},
		{"let r : s = sqrt({2/9})", "2/9; root 0", 1},
		{"let r : s = sqrt(1 + 1)", "2; root 0", 1},
		{"let r : s = sqrt(sqrt(16))", "2", 0},
		{"let r : s = sqrt(sqrt(2))", "2; root 0; root 1", 2},
		{"let r : s = sqrt(sqrt(4))", "2; root 0", 1},
		{"let a : s = sqrt(2); let r : s = -a", "2; root 0; neg 1", 2},
		{"let a : s = sqrt(2); let r : s = abs(-a)", "2; root 0; neg 1; abs 2", 3},
		{"let a : s = sqrt(2); let r : s = a + a", "2; root 0; 1 add 1", 2},
		{"let a : s = sqrt(2); let r : s = a - 3", "2; root 0; 3; 1 sub 2", 3},
		{"let a : s = sqrt(2); let r : s = 3 - a", "2; root 0; 3; 2 sub 1", 3},
		{"let a : s = sqrt(2); let r : s = a * a", "2; root 0; 1 mul 1", 2},
		{"let a : s = sqrt(2); let r : s = 0 * a", "2; root 0; 0; 2 mul 1", 3},
		{"let a : s = sqrt(2); let r : s = a / 2", "2; root 0; 2; 1 quo 2", 3},
		{"let a : s = sqrt(2); let r : s = min(a, 1)", "2; root 0; 1; 1 min 2", 3},
		{"let a : s = sqrt(2); let r : s = max(1, a)", "2; root 0; 1; 2 max 1", 3},
		{"let a : s = sqrt(2); let r : s = s(a)", "2; root 0", 1},
		{"let a : s = sqrt(2); let r : s = if 1 <= 2 then a else 7", "2; root 0", 1},
		{"let a : s = sqrt(2); let r : s = if 2 <= 1 then a else 7", "2; root 0; 7", 2},
		{"let a : s = sqrt(2); let r : s = if a <= 2 then 5 else a", "2; root 0; 5", 2},
		{"let a : s = sqrt(2); let r : s = fma(a, a, a)", "2; root 0; 1 mul 1; 2 add 1", 3},
		{"let a : s = sqrt(2); let r : s = fma(3, 4, a)", "2; root 0; 3; 4; 2 mul 3; 4 add 1", 5},
		{"let a : s = sqrt(2); let b : s = 3; let r : s = fma(b, b, a)", "2; root 0; 3; 3; 2 mul 3; 4 add 1", 5},
		{"let a : s = sqrt(2); let r : s = fma(a, 4, 5)", "2; root 0; 4; 5; 1 mul 2; 4 add 3", 5},
		{"let a : s = sqrt(2); let r : s = fma(3, a, 5)", "2; root 0; 3; 5; 2 mul 1; 4 add 3", 5},
		{"let a : s = sqrt(2); let r : s = fma(a, a, 5)", "2; root 0; 5; 1 mul 1; 3 add 2", 4},
		{"let a : s = sqrt(2); let r : s = fma(2, 3, 1)", "7", 0},
		{"let b : s = 3; let a : s = sqrt(2) * b; let r : s = a + b", "2; root 0; 3; 1 mul 2; 3; 3 add 4", 5},
		{"let a : s = sqrt(2); let b : s = a * a; let c : s = -a; let r : s = if b <= 2 then b else c", "2; root 0; 1 mul 1; neg 1", 2},
		{"let a : s = sqrt(2); let b : s = -a; let r : s = if b <= 2 then a else b", "2; root 0; neg 1", 1},
		{"let a : s = sqrt(2) - sqrt(2); let r : s = sqrt(a)", "2; root 0; 2; root 2; 1 sub 3; root 4", 5},
	} {
		expectReal(t, c.lines, c.want, c.at, noFault, api.OK)(realOf(t, c.lines, 0))
	}
	loop := "let k : s = sqrt(2); state a : s = 1; state b : s = k; loop; next a = b; next b = a * b; end; let r : s = a"
	for steps, c := range []struct {
		want string
		at   int
	}{{"2; root 0; 1", 2}, {"2; root 0; 1; 2 mul 1", 1}, {"2; root 0; 1; 2 mul 1; 1 mul 3", 3}, {"2; root 0; 1; 2 mul 1; 1 mul 3; 3 mul 4", 4}} {
		expectReal(t, loop, c.want, c.at, noFault, api.OK)(realOf(t, loop, steps))
	}
	expectReal(t, "nodes that are not needed", "1", 0, noFault, api.OK)(realOf(t, "let a : s = sqrt(2); let b : s = 1 / 0; let r : s = 1", 0))
}

// TestP5_3_Faults: faults are decided exactly, also for values that are not plain.
func TestP5_3_Faults(t *testing.T) {
	for _, c := range []struct {
		lines string
		f     api.RnFault
	}{
		{"let r : s = 1 / 0", fault(api.RnZero, 2, 0)},
		{"let r : s = 0 / (1 - 1)", fault(api.RnZero, 4, 0)},
		{"let r : s = sqrt(-2)", fault(api.RnRoot, 2, 0)},
		{"let r : s = sqrt(0 - {1/1000000})", fault(api.RnRoot, 3, 0)},
		{"let a : s = sqrt(2); let r : s = 1 / (a * a - 2)", fault(api.RnZero, 6, 0)},
		{"let a : s = sqrt(2); let r : s = a / 0", fault(api.RnZero, 3, 0)},
		{"let a : s = sqrt(2); let r : s = sqrt(1 - a)", fault(api.RnRoot, 4, 0)},
		{"let a : s = sqrt(5 + 2 * (sqrt(2) * sqrt(3))); let r : s = 7 / a", noFault},
		{"let a : s = sqrt(2); let b : s = sqrt(3); let r : s = sqrt(a * b + a * b - a * (b + b))", noFault},
		{"let a : s = sqrt(2); let b : s = sqrt(3); let r : s = 1 / (a * b + a * b - a * (b + b))", fault(api.RnZero, 11, 0)},
		{"let a : s = 665857 - 470832 * sqrt(2); let r : s = sqrt(-a)", fault(api.RnRoot, 7, 0)},
		{"let a : s = 665857 - 470832 * sqrt(2); let r : s = sqrt(a)", noFault},
		{"let a : s = sqrt(2); let b : s = sqrt(3); let c : s = sqrt(6); let r : s = 1 / (a * b - c)", fault(api.RnZero, 9, 0)},
		{"state a : s = 4; loop; next a = a - 1; end; let r : s = sqrt(1 - a)", noFault},
		{"state a : s = 5; loop; next a = a - 1; end; let r : s = sqrt(1 - a)", fault(api.RnRoot, 7, 4)},
		{"state a : s = 2; loop; next a = 1 / (a - 1); end; let r : s = a", fault(api.RnZero, 5, 2)},
	} {
		_, _, f, e := realOf(t, c.lines, 3)
		if f != c.f || e != api.OK {
			t.Errorf("%s: fault %v, error %d, want %v", c.lines, f, e, c.f)
		}
		if c.f != noFault {
			expectReal(t, c.lines, "", 0, c.f, api.OK)(realOf(t, c.lines, 3))
		}
	}
	// Nothing overflows in the real run.
	p := program(t, "format f 3 3; let a : f = 14 * 14; let r : f = a * a; result r")
	expectReal(t, "no overflow", "38416", 0, noFault, api.OK)(run.Real(p, nil, 0))
}

// large is a program with the result r, and whether its real run is too large.
type large struct {
	lines string
	steps int
	is    bool
	f     api.RnFault
}

func (c large) check(t *testing.T) {
	t.Helper()
	wantE := api.OK
	if c.is {
		wantE = api.ErrLong
	}
	l, at, f, e := realOf(t, c.lines, c.steps)
	if e != wantE || f != c.f || (len(l) == 0) != (c.is || c.f != noFault) {
		t.Errorf("%.100s, %d steps: %d nodes, node %d, fault %v, error %d, want fault %v, error %d", c.lines, c.steps, len(l), at, f, e, c.f, wantE)
	}
	if part, e := reals.Check(l); e != api.OK {
		t.Errorf("%.100s, %d steps: node %d of the list has the error %d", c.lines, c.steps, part, e)
	}
}

// TestP5_3_LargePlain: plain values have at most 2000 digits, before a fault.
func TestP5_3_LargePlain(t *testing.T) {
	a, b := digits(1000), digits(1001)
	for _, c := range []large{
		{lines: fmt.Sprintf("let r : s = {%s} * {%s}", a, b)},
		{lines: fmt.Sprintf("let r : s = {%s} * {%s}", b, b), is: true},
		{lines: fmt.Sprintf("let r : s = {1/%s} * {1/%s}", a, b)},
		{lines: fmt.Sprintf("let r : s = {1/%s} * {-1/%s}", b, b), is: true},
		{lines: fmt.Sprintf("let r : s = {%s} / {1/%s}", b, b), is: true},
		{lines: fmt.Sprintf("let r : s = fma({%s}, {%s}, {-1} * {%s} * {%s})", b, a, a, b)},
		{lines: fmt.Sprintf("let r : s = fma({%s}, {%s}, {%s})", b, b, b), is: true},
		// The product within has 2001 digits, but it is no value.
		{lines: fmt.Sprintf("let r : s = fma({%s}, {%s}, -{%s})", b, b, b)},
		{lines: fmt.Sprintf("let c : s = {%s}; let d : s = {%s}; let r : s = c + d", strings.Repeat("9", 2000), "1"), is: true},
		{lines: fmt.Sprintf("let c : s = {%s}; let d : s = {%s}; let r : s = c + d", strings.Repeat("9", 1999), "1")},
		{lines: fmt.Sprintf("let c : s = {%s} * {%s}; let r : s = c / {%s}", b, b, b), is: true},
		{lines: fmt.Sprintf("let z : s = 1 / 0; let c : s = {%s} * {%s}; let r : s = c + z", b, b), f: fault(api.RnZero, 2, 0)},
		{lines: fmt.Sprintf("let c : s = {%s} * {%s}; let z : s = 1 / 0; let r : s = c + z", b, b), is: true},
		{lines: fmt.Sprintf("let z : s = sqrt(-1); let c : s = {%s} * {%s}; let r : s = c + z", b, b), f: fault(api.RnRoot, 2, 0)},
		{lines: "state a : s = 10; loop; next a = a * a; end; let r : s = a", steps: 10},
		{lines: "state a : s = 10; loop; next a = a * a; end; let r : s = a", steps: 11, is: true},
		{lines: "state a : s = 10; loop; next a = a * a; end; let r : s = a", steps: 200, is: true},
		// A value that is not needed.
		{lines: fmt.Sprintf("let c : s = {%s} * {%s}; let r : s = {1}", b, b)},
	} {
		c.check(t)
	}
}

// TestP5_3_LargeList: the list has at most 200 nodes, with that of the result.
func TestP5_3_LargeList(t *testing.T) {
	grows := "state a : s = sqrt(2); loop; next a = -a; end; let r : s = "
	for _, c := range []large{
		{lines: grows + "a", steps: 197},
		{lines: grows + "a", steps: 198},
		{lines: grows + "a", steps: 199, is: true},
		{lines: grows + "if a <= a then 1 else 2", steps: 197},
		{lines: grows + "if a <= a then 1 else 2", steps: 198, is: true},
		{lines: grows + "1 / (0 * a)", steps: 196, f: fault(api.RnZero, 8, 197)},
		{lines: grows + "1 / (0 * a)", steps: 197, is: true},
		{lines: grows + "a / 0", steps: 198, f: fault(api.RnZero, 6, 199)},
		{lines: grows + "a / 0", steps: 199, is: true},
		// A number is appended each time that it is an operand.
		{lines: "state a : s = sqrt(2); loop; next a = min(a, 2); end; let r : s = a", steps: 99},
		{lines: "state a : s = sqrt(2); loop; next a = min(a, 2); end; let r : s = a", steps: 100, is: true},
		{lines: "let k : s = sqrt(2); state a : s = k; loop; next a = fma({1}, {2}, k); end; let r : s = a", steps: 49},
		{lines: "let k : s = sqrt(2); state a : s = k; loop; next a = fma({1}, {2}, k); end; let r : s = a", steps: 50, is: true},
	} {
		c.check(t)
	}
}

// TestP5_3_LargeRoots: the list has at most three roots, whatever keeps them.
func TestP5_3_LargeRoots(t *testing.T) {
	roots := "let a : s = sqrt(2); let b : s = sqrt(3); let c : s = sqrt(5); "
	for _, c := range []large{
		{lines: roots + "let r : s = a + b + c"},
		{lines: roots + "let d : s = a + b + c; let r : s = d + sqrt(4) * sqrt({1/9}) + sqrt(0)"},
		{lines: roots + "let d : s = a + b + c; let r : s = d + sqrt(7)", is: true},
		{lines: roots + "let d : s = a + b + c; let r : s = d + sqrt(2)", is: true},
		{lines: roots + "let d : s = a + b + c; let r : s = sqrt(d)", is: true},
		{lines: roots + "let d : s = a + b + c; let r : s = sqrt(-d)", f: fault(api.RnRoot, 9, 0)},
		{lines: roots + "let d : s = a + b + c; let e : s = sqrt(7); let r : s = if 1 <= 2 then d else e", is: true},
		{lines: roots + "let d : s = a * a; let r : s = if b <= c then d else d"},
		{lines: "state a : s = 2; loop; next a = sqrt(a); end; let r : s = a", steps: 3},
		{lines: "state a : s = 2; loop; next a = sqrt(a); end; let r : s = a", steps: 4, is: true},
		{lines: "state a : s = 65536; loop; next a = sqrt(a); end; let r : s = a", steps: 7},
		{lines: "state a : s = 65536; loop; next a = sqrt(a); end; let r : s = a", steps: 8, is: true},
		{lines: "state a : s = 0; loop; next a = a + sqrt(2) * 0; end; let r : s = a", steps: 3},
		{lines: "state a : s = 0; loop; next a = a + sqrt(2) * 0; end; let r : s = a", steps: 4, is: true},
	} {
		c.check(t)
	}
}

// TestP5_3_LargeWeight: what is appended for an operation has a weight of at most 800.
func TestP5_3_LargeWeight(t *testing.T) {
	for _, c := range []large{
		{lines: fmt.Sprintf("let r : s = sqrt(2) * {%s}", digits(799))},
		{lines: fmt.Sprintf("let r : s = sqrt(2) * {%s}", digits(800)), is: true},
		{lines: fmt.Sprintf("let r : s = {1/%s} - sqrt(2)", digits(799))},
		{lines: fmt.Sprintf("let r : s = {1/%s} - sqrt(2)", digits(800)), is: true},
		{lines: fmt.Sprintf("let r : s = sqrt({%s})", digits(800))},
		{lines: fmt.Sprintf("let r : s = sqrt({%s})", digits(802)), is: true},
		{lines: fmt.Sprintf("let r : s = sqrt({%s})", digits(801))}, // the root of 10 to the power 800
		{lines: fmt.Sprintf("let r : s = fma({%s}, {%s}, sqrt(2))", digits(399), digits(400))},
		{lines: fmt.Sprintf("let r : s = fma({%s}, {%s}, sqrt(2))", digits(400), digits(400)), is: true},
		{lines: fmt.Sprintf("let r : s = fma(sqrt(2), {%s}, {%s})", digits(400), digits(399))},
		{lines: fmt.Sprintf("let r : s = fma(sqrt(2), {%s}, {%s})", digits(400), digits(400)), is: true},
		{lines: fmt.Sprintf("let a : s = sqrt(2); let b : s = {%s}; let r : s = if a <= 1 then a else b", digits(2000))},
		{lines: "state a : s = sqrt(10); loop; next a = a * a; end; let r : s = a", steps: 8},
		{lines: "state a : s = sqrt(10); loop; next a = a * a; end; let r : s = a", steps: 9, is: true},
		{lines: "state a : s = sqrt(2); loop; next a = a + a; end; let r : s = 1 / (a - a)", steps: 9, is: true},
		{lines: "state a : s = sqrt(2); loop; next a = a + a; end; let r : s = 1 / (a - a)", steps: 8, f: fault(api.RnZero, 7, 9)},
		{lines: "state a : s = sqrt(2); loop; next a = a + a; end; let r : s = a / 0", steps: 10, is: true},
		{lines: "state a : s = sqrt(2); loop; next a = a + a; end; let r : s = a / 0", steps: 9, f: fault(api.RnZero, 6, 10)},
		{lines: "state a : s = sqrt(2); loop; next a = a + a; end; let r : s = a + (1 / 0)", steps: 9, f: fault(api.RnZero, 7, 10)},
	} {
		c.check(t)
	}
}

// TestP5_3_LargeSelections: what a value that is not plain is compared with has at
// most 800 digits.
func TestP5_3_LargeSelections(t *testing.T) {
	const root = "let a : s = sqrt(2); "
	for _, c := range []large{
		{lines: root + fmt.Sprintf("let r : s = if a <= {%s} then 1 else 2", digits(800))},
		{lines: root + fmt.Sprintf("let r : s = if a <= {%s} then 1 else 2", digits(801)), is: true},
		{lines: root + fmt.Sprintf("let r : s = if {1/%s} <= a then 1 else 2", digits(800))},
		{lines: root + fmt.Sprintf("let r : s = if {1/%s} <= a then 1 else 2", digits(801)), is: true},
		{lines: root + fmt.Sprintf("let r : s = if a <= a then {%s} else a", digits(2000))},
		{lines: root + fmt.Sprintf("let r : s = if {%s} <= {%s} then a else 1", digits(2000), digits(1999))},
		{lines: root + fmt.Sprintf("let b : s = a * {%s}; let r : s = if b <= {%s} then 1 else 2", digits(799), digits(800))},
		{lines: root + fmt.Sprintf("let b : s = a * {%s}; let c : s = b + {1/2} - {1/2}; let r : s = if b <= c then 1 else 2", digits(790))},
		{lines: root + fmt.Sprintf("let z : s = 1 / 0; let b : s = if a <= {%s} then 1 else 2; let r : s = b + z", digits(801)), f: fault(api.RnZero, 4, 0)},
	} {
		c.check(t)
	}
}
