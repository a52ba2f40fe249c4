package run_test

import (
	"testing"

	"vernier/api"
	"vernier/exact"
	"vernier/run"
)

func expectError(t *testing.T, what string, p api.Prog, in string, steps, bits int, wantLo, wantHi api.Rat, wantF api.RnFault, wantE api.Errno) {
	t.Helper()
	lo, hi, f, e := run.Error(p, rats(in), steps, bits)
	if lo.Text() != wantLo || hi.Text() != wantHi || f != wantF || e != wantE {
		t.Errorf("%s, %d bits: from %s to %s, fault %v, error %d, want from %s to %s, fault %v, error %d", what, bits, lo.Text(), hi.Text(), f, e, wantLo, wantHi, wantF, wantE)
	}
}

// TestP5_5_Plain: the error of an input whose real value is plain.
func TestP5_5_Plain(t *testing.T) {
	third := program(t, "format f 3 3; input x : f from 1 to 1; let r : f = x / 3; result r") // 5/16 for 1/3
	for bits, want := range map[int][2]api.Rat{0: {"0", "1"}, 5: {"0", "1/32"}, 6: {"1/64", "1/32"}, 7: {"1/64", "3/128"}, 8: {"5/256", "3/128"}} {
		expectError(t, "1/48", third, "1", 0, bits, want[0], want[1], noFault, api.OK)
	}
	lo, hi, _, e := run.Error(third, rats("1"), 0, 2000)
	if width := hi.Sub(lo); e != api.OK || width.Text() != api.Rat(toText(twoTo(-2000))) || lo.Cmp(number(t, "1/48")) >= 0 || hi.Cmp(number(t, "1/48")) <= 0 {
		t.Errorf("2000 bits: from %s to %s, error %d", lo.Text(), hi.Text(), e)
	}
	above := program(t, "mode up; format f 3 3; let r : f = {1/3}; result r") // 3/8
	expectError(t, "1/24", above, "", 0, 6, "1/32", "3/64", noFault, api.OK)
	exactly := program(t, "format f 3 3; let r : f = {9/8}; result r")
	for _, bits := range []int{3, 4, 100, 2000} {
		expectError(t, "1/8", exactly, "", 0, bits, "1/8", "1/8", noFault, api.OK)
	}
	expectError(t, "1/8", exactly, "", 0, 2, "0", "1/4", noFault, api.OK)
	for _, bits := range []int{0, 1000} {
		expectError(t, "no error", program(t, "format f 3 3; let r : f = -{5/4}; result r"), "", 0, bits, "0", "0", noFault, api.OK)
	}
	// The real value has as many digits as it may have.
	long := single(t, "let r : s = {1/"+digits(2000)+"}")
	expectError(t, "a long value", long, "", 0, 2000, "0", api.Rat(toText(twoTo(-2000))), noFault, api.OK)
	for bound, want := range map[api.Rat]bool{"1/" + api.Rat(digits(2000)): true, "1/1" + api.Rat(digits(2000)[1:1999]) + "1": false, "0": false} {
		if is, f, e := run.Within(long, nil, 0, number(t, bound)); is != want || f != noFault || e != api.OK {
			t.Errorf("Within %.10s..: %v, fault %v, error %d", bound, is, f, e)
		}
	}
}

// TestP5_5_Roots: the error of an input whose real value is not plain.
func TestP5_5_Roots(t *testing.T) {
	root := program(t, "format f 3 3; input x : f from 2 to 2; let r : f = sqrt(x); result r") // 3/2 for the root of 2: 0.0857..
	for bits, want := range map[int][2]api.Rat{0: {"0", "1"}, 4: {"1/16", "1/8"}, 10: {"87/1024", "11/128"}} {
		expectError(t, "the root of 2", root, "2", 0, bits, want[0], want[1], noFault, api.OK)
	}
	below := program(t, "mode down; format f 3 3; let r : f = -sqrt(2); result r") // -5/4 for -1.414..: 0.1642..
	expectError(t, "the negative of the root of 2", below, "", 0, 10, "21/128", "169/1024", noFault, api.OK)
	square := program(t, "format f 3 3; let a : f = sqrt(2); let r : f = a * a; result r") // 2 for 2, though not plain
	for _, bits := range []int{0, 9, 2000} {
		expectError(t, "the square of the root of 2", square, "", 0, bits, "0", "0", noFault, api.OK)
	}
	third := program(t, "format f 3 3; let a : f = sqrt(2); let r : f = a * a / 3; result r") // 5/8 for 2/3
	expectError(t, "a third of the square", third, "", 0, 3, "0", "1/8", noFault, api.OK)
	for bound, want := range map[api.Rat]bool{"1/24": true, "1/25": false, "0": false, "-1/24": false, "-1": false, "100": true} {
		if is, f, e := run.Within(third, nil, 0, number(t, bound)); is != want || f != noFault || e != api.OK {
			t.Errorf("Within %s: %v, fault %v, error %d", bound, is, f, e)
		}
	}
	for bound, want := range map[api.Rat]bool{"0": true, "-1": false} {
		if is, f, e := run.Within(square, nil, 0, number(t, bound)); is != want || f != noFault || e != api.OK {
			t.Errorf("Within %s: %v, fault %v, error %d", bound, is, f, e)
		}
	}
	// The weight of the value is 800, and the floating-point value has many digits.
	heavy := program(t, "format q 11 113; let r : q = sqrt(2) * {1/"+digits(300)+"} - {"+"1/"+digits(498)+"}; result r")
	lo, hi, f, e := run.Error(heavy, nil, 0, 2000)
	if width := hi.Sub(lo); lo.Sign() <= 0 || width.Text() != api.Rat(toText(twoTo(-2000))) || f != noFault || e != api.OK {
		t.Errorf("a heavy value: fault %v, error %d", f, e)
	}
}

// TestP5_5_Faults: the fault of the floating-point run comes first.
func TestP5_5_Faults(t *testing.T) {
	for _, c := range []struct {
		lines string
		f     api.RnFault
	}{
		{"let a : f = 1 / 0; let r : f = a + 20", fault(api.RnZero, 2, 0)},
		{"let a : f = 20; let r : f = a / 0", fault(api.RnOverflow, 0, 0)},
		{"let a : f = (2 + {1/16}) - 2; let b : f = 14 + a; let c : f = sqrt(b - 14 - {1/16}); let r : f = c", fault(api.RnRoot, 11, 0)},
		{"let a : f = sqrt(2 - (2 + {1/16})); let r : f = a", fault(api.RnRoot, 5, 0)},                                          // in R alone
		{"let a : f = 1 / ((2 + {1/16}) - 2); let r : f = a", fault(api.RnZero, 6, 0)},                                          // in F alone
		{"let a : f = sqrt(2 - (2 + {1/16})); let b : f = 1 / ((2 + {1/16}) - 2); let r : f = a + b", fault(api.RnZero, 12, 0)}, // in both
	} {
		p := program(t, "format f 3 3; "+c.lines+"; result r")
		for _, bits := range []int{0, 2000} {
			expectError(t, c.lines, p, "", 0, bits, "0", "0", c.f, api.OK)
		}
		for _, bound := range []int64{-1, 0, 100} {
			if is, f, e := run.Within(p, nil, 0, exact.Int(bound)); is || f != c.f || e != api.OK {
				t.Errorf("%s: Within %d: %v, fault %v, error %d", c.lines, bound, is, f, e)
			}
		}
	}
}

// TestP5_5_Order: a real run that is too large, bits, faults.
func TestP5_5_Order(t *testing.T) {
	fails := program(t, "format f 3 3; let r : f = 1 / 0; result r")
	large := program(t, "format f 3 3; let a : f = 1 / 0; let b : f = sqrt({"+digits(802)+"}); let r : f = a + b; result r")
	big := program(t, "format f 3 3; let a : f = 20; let b : f = sqrt({"+digits(802)+"}); let r : f = a + b; result r")
	good := program(t, half)
	for _, bits := range []int{-1, 2001, -1 << 63, 1<<63 - 1} {
		expectError(t, "bits", good, "1/2", 0, bits, "0", "0", noFault, api.ErrRange)
		expectError(t, "bits before a fault", fails, "", 0, bits, "0", "0", noFault, api.ErrRange)
		expectError(t, "a large run before bits", big, "", 0, bits, "0", "0", noFault, api.ErrLong)
	}
	expectError(t, "a large run before a fault of F", big, "", 0, 1, "0", "0", noFault, api.ErrLong)
	expectError(t, "a fault before the run is too large", large, "", 0, 1, "0", "0", fault(api.RnZero, 2, 0), api.OK)
	for name, do := range withInput(false) {
		zero, e := do(big, nil, 0)
		want := api.ErrLong
		if name == "Float" || name == "Values" {
			want, zero = api.OK, !zero
		}
		if !zero || e != want {
			t.Errorf("%s of a large run: zero %v, error %d, want %d", name, zero, e, want)
		}
	}
}
