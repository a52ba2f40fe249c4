package run_test

import (
	"fmt"
	"math/big"
	"slices"
	"strings"
	"testing"

	"vernier/api"
	"vernier/run"
)

func expectBranches(t *testing.T, what string, p api.Prog, in string, steps int, wantFloat, wantReal string) {
	t.Helper()
	float, real, e := run.Branches(p, rats(in), steps)
	if branchText(float) != wantFloat || branchText(real) != wantReal || e != api.OK {
		t.Errorf("%s: %q, %q, error %d, want %q, %q", what, branchText(float), branchText(real), e, wantFloat, wantReal)
	}
}

// branchText writes C or D for each branch.
func branchText(l []bool) string {
	text := ""
	for _, takesC := range l {
		if takesC {
			text += "C"
		} else {
			text += "D"
		}
	}
	return text
}

// TestP5_4_Branches: what needed nodes OpSel take, each time, in both runs.
func TestP5_4_Branches(t *testing.T) {
	expectBranches(t, "none", program(t, half), "1/2", 0, "", "")
	p := program(t, "format f 3 3; input x : f from 0 to 14; let a : f = if x <= 2 then 1 else 3; let b : f = if x <= 1 then x else 0; let r : f = if 2 <= a then a else x; result r")
	expectBranches(t, "equal operands", p, "2", 0, "CD", "CD")
	expectBranches(t, "a less one", p, "7/4", 0, "CD", "CD")
	expectBranches(t, "a greater one", p, "5/2", 0, "DC", "DC")
	// x + 1/16 is 2 in F for x = 2.
	p = program(t, "format f 3 3; input x : f from 0 to 14; let a : f = x + {1/16}; let r : f = if a <= 2 then a else 0; result r")
	expectBranches(t, "rounded", p, "2", 0, "C", "D")
	p = program(t, "format d 11 53; state a : d = 0; loop; next a = if a <= {3/10} then a + {1/10} else 0; end; let r : d = if a <= 0 then 7 else 8; result r")
	for steps, want := range [][2]string{{"C", "C"}, {"CD", "CD"}, {"CCD", "CCD"}, {"CCCD", "CCCD"}, {"CCCDC", "CCCCD"}, {"CCCDCD", "CCCCDC"}} {
		expectBranches(t, "a loop", p, "", steps, want[0], want[1])
	}
}

// TestP5_4_Exactly: values that are not plain are compared exactly.
func TestP5_4_Exactly(t *testing.T) {
	for cond, want := range map[string]string{
		"a * a <= 2": "C", "2 <= a * a": "C", "a * b <= c": "C", "c <= a * b": "C", "c <= a * b - 0": "C",
		"a <= b": "C", "b <= a": "D", "1 <= a": "C", "a <= 1": "D", "470832 * a <= 665857": "C", "665857 <= 470832 * a": "D",
		"a <= {665857/470832}": "C", "{665857/470832} <= a": "D", "a <= a": "C", "a + b <= b + a": "C", "{1/1000000000000000000000000000000000000000000000} <= 0 * a": "D",
		"(a * {10} - {14}) * 0 <= 0": "C",
	} {
		p := single(t, "let a : s = sqrt(2); let b : s = sqrt(3); let c : s = sqrt(6); let r : s = if "+cond+" then 1 else 2")
		_, real, e := run.Branches(p, nil, 0)
		if branchText(real) != want || e != api.OK {
			t.Errorf("%s: %s, error %d, want %s", cond, branchText(real), e, want)
		}
	}
	// Numbers that are nearer and nearer to the root of 2, below it and above it.
	x, y := big.NewInt(1), big.NewInt(1)
	for i := range 300 {
		p := single(t, fmt.Sprintf("let a : s = sqrt(2); let r : s = if a <= {%s%s} then 1 else 2", x, strings.TrimSuffix("/"+y.String(), "/1")))
		_, real, e := run.Branches(p, nil, 0)
		if want := "DC"[i%2 : i%2+1]; branchText(real) != want || e != api.OK {
			t.Fatalf("%s/%s: %s, error %d, want %s", x, y, branchText(real), e, want)
		}
		x, y = new(big.Int).Add(x, new(big.Int).Lsh(y, 1)), new(big.Int).Add(x, y)
	}
}

// TestP5_4_Faults: each run goes on to its own fault.
func TestP5_4_Faults(t *testing.T) {
	// In F the sum is 2, and then there is a division by 0.
	p := program(t, "format f 3 3; let a : f = if 1 <= 2 then 2 else 3; let b : f = 1 / (a + {1/16} - 2); let r : f = if b <= 3 then b else 1; result r")
	expectBranches(t, "a fault in F", p, "", 0, "C", "CD")
	p = program(t, "format f 3 3; let a : f = if 1 <= 2 then 2 else 3; let b : f = sqrt(2 - (a + {1/16})); let r : f = if b <= 3 then b else 1; result r")
	expectBranches(t, "a fault in R", p, "", 0, "CC", "C")
	p = program(t, "format f 3 3; let a : f = if 1 <= 2 then 2 else 3; let b : f = 1 / (a - 2); let r : f = if b <= 3 then b else 1; result r")
	expectBranches(t, "a fault in both", p, "", 0, "C", "C")
	// A node OpSel that overflows has no value in F: it is not done.
	p = program(t, "format f 3 3; format s 8 24; input x : s from 0 to 100; let b : f = if x <= 1 then 1 else x; let r : f = if b <= 3 then b else 1; result r")
	expectBranches(t, "OpSel overflows", p, "20", 0, "", "DD")
	expectBranches(t, "OpSel does not overflow", p, "10", 0, "DD", "DD")
	// The real run is too large, though F has a fault before.
	p = program(t, "format f 3 3; let z : f = 14 * 14; let a : f = {"+digits(1500)+"}; let r : f = z + a * a; result r")
	if float, real, e := run.Branches(p, nil, 0); len(float)+len(real) > 0 || e != api.ErrLong {
		t.Errorf("too large: %v, %v, error %d", float, real, e)
	}
	if l, f, e := run.Values(p, nil, 0); len(l) != 2 || f != fault(api.RnOverflow, 2, 0) || e != api.OK {
		t.Errorf("too large in R alone: %v, fault %v, error %d", l, f, e)
	}
	if float, _, _ := run.Branches(program(t, newton), rats("2"), 3); !slices.Equal(float, nil) {
		t.Errorf("no OpSel: %v", float)
	}
}
