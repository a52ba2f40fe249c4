package run_test

import (
	"testing"

	"vernier/api"
	"vernier/exact"
	"vernier/floats"
	"vernier/run"
)

// TestP5_Examples has the examples of the chapter.
func TestP5_Examples(t *testing.T) {
	n, h := program(t, newton), program(t, half)
	expectNum(t, "1 step", "3/2", noFault, api.OK)(run.Float(n, rats("2"), 1))
	expectNum(t, "2 steps", "5941931/4194304", noFault, api.OK)(run.Float(n, rats("2"), 2))
	expectReal(t, "2 steps", "17/12", 0, noFault, api.OK)(run.Real(n, rats("2"), 2))
	lo, hi, f, e := run.Error(n, rats("2"), 2, 30)
	if lo.Text() != "85/1073741824" || hi.Text() != "43/536870912" || f != noFault || e != api.OK {
		t.Errorf("Error: from %s to %s, fault %v, error %d", lo.Text(), hi.Text(), f, e)
	}
	for bound, want := range map[api.Rat]bool{"1/12582912": true, "1/12582913": false} {
		if is, f, e := run.Within(n, rats("2"), 2, number(t, bound)); is != want || f != noFault || e != api.OK {
			t.Errorf("Within %s: %v, fault %v, error %d", bound, is, f, e)
		}
	}
	if count, e := run.Count(n, 2); count != 12 || e != api.OK {
		t.Errorf("Count: %d, error %d", count, e)
	}
	expectNum(t, "absorbed", "0", noFault, api.OK)(run.Float(h, rats("1/4096"), 0))
	expectReal(t, "absorbed", "1/4096", 0, noFault, api.OK)(run.Real(h, rats("1/4096"), 0))
	expectEvents(t, "absorbed", "3 2 0 0; 1 4 0 11")(run.Events(h, rats("1/4096"), 0))
}

// TestP5_ExamplesOfOperate has the chapter's examples of Operate.
func TestP5_ExamplesOfOperate(t *testing.T) {
	for _, c := range []struct {
		f     api.Format
		op    int
		args  string
		want  api.Rat
		fault int
	}{
		{api.Format{E: 8, P: 24}, api.OpDiv, "1 0", "0", api.RnZero},
		{api.Format{E: 8, P: 24}, api.OpDiv, "1 3", "11184811/33554432", 0},
		{api.Format{E: 5, P: 11}, api.OpMul, "256 256", "0", api.RnOverflow},
		{api.Format{E: 5, P: 11}, api.OpSqrt, "-1", "0", api.RnRoot},
	} {
		x, fault, e := run.Operate(api.RnEven, c.f, c.op, numbers(t, c.args))
		if x.Text() != c.want || fault != c.fault || e != api.OK {
			t.Errorf("operation %d of %s: %s, fault %d, error %d", c.op, c.args, x.Text(), fault, e)
		}
	}
}

func numbers(t testing.TB, text string) []exact.Num {
	var out []exact.Num
	for _, r := range rats(text) {
		out = append(out, number(t, r))
	}
	return out
}

// TestP5_ExamplesOfDocument has the examples of the document that are about runs.
func TestP5_ExamplesOfDocument(t *testing.T) {
	f := program(t, "format f 2 3; input x : f from 0 to 3; let a : f = x * x; result a")
	expectNum(t, "the square of 3", "0", fault(api.RnOverflow, 1, 0), api.OK)(run.Float(f, rats("3"), 0))
	if greatest, _ := floats.Greatest(f.Formats[0]); greatest.Text() != "7/2" {
		t.Errorf("the greatest value is %s", greatest.Text())
	}
	expectNum(t, "the square of 3/4", "1/2", noFault, api.OK)(run.Float(f, rats("3/4"), 0))
	lo, hi, _, e := run.Error(f, rats("3/4"), 0, 10)
	if lo.Text() != "1/16" || hi.Text() != "1/16" || e != api.OK {
		t.Errorf("Error: from %s to %s, error %d", lo.Text(), hi.Text(), e)
	}
	q := program(t, "format s 8 24; input x : s from 0 to 4; let a : s = sqrt(x); let b : s = 1 / a; result b")
	expectReal(t, "1 by the root of 2", "2; root 0; 1; 2 quo 1", 3, noFault, api.OK)(run.Real(q, rats("2"), 0))
	expectReal(t, "1 by the root of 0", "", 0, fault(api.RnZero, 3, 0), api.OK)(run.Real(q, rats("0"), 0))
}
