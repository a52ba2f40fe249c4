package bounds_test

import (
	"testing"

	"vernier/api"
	"vernier/bounds"
)

// TestP8_Examples has the examples of the chapter.
func TestP8_Examples(t *testing.T) {
	p := program(t, square)
	for _, x := range []struct {
		plan              api.BdPlan
		leaf, claim, tree string
	}{
		{api.BdPlan{Bits: 30}, "step 1 2 0; step 1 4 1/512; step -1 3 3/1024 | ", "-1 3 3/1024", "step -1 3 3/1024"},
		{api.BdPlan{Bits: 30, Mean: true}, "step 1 2 0; step 1 4 1/512; mean -3/4 9/4 3/1024 | ", "-3/4 9/4 3/1024", "mean -3/4 9/4 3/1024"},
		{api.BdPlan{Bits: 30, Squares: true}, "step 1 2 0; step 1 4 1/512; squares 0 2 3/1024 low 2 high 2 | ", "0 2 3/1024", "squares 0 2 3/1024 low 2 high 2"},
		{api.BdPlan{Bits: 30, Mean: true, Squares: true}, "step 1 2 0; step 1 4 1/512; squares 0 2 3/1024 low 2 high 2 | ", "0 2 3/1024", "squares 0 2 3/1024 low 2 high 2"},
		{api.BdPlan{Bits: 30, Splits: 1}, "step 1 2 0; step 1 4 1/512; step -1 3 3/1024 | ", "-1/2 5/2 3/1024", "split 0 3/2; step -1/2 5/4 3/2048; step 1/4 5/2 3/1024"},
	} {
		what := dump(x.plan)
		expectLeaf(t, what, x.leaf, api.OK)(bounds.Leaf(p, boxOf(p), x.plan))
		expectProof(t, what, p, x.claim, x.tree, api.OK)(bounds.Derive(p, x.plan))
		expectNum(t, what, "3/1024", api.OK)(bounds.Error(p, x.plan))
	}
	want := "0 2 low 1 0 (1 0), 2 -1 (-1 0; 1 1) high 2 -1 (2 0; -1 1), 3 0 (1 0)"
	expectCertificate(t, "x^2 - x", want, api.OK)(bounds.Certificate(terms("-1 1; 1 2"), spans("1 2")))
	for _, plan := range []api.BdPlan{{Bits: 7}, {Bits: 30, Splits: 41}} {
		if e := bounds.Check(plan); e != api.ErrRange {
			t.Errorf("Check(%v): error %d", plan, e)
		}
	}
	l := program(t, mixed)
	states := "state 0 1 1/512"
	expectStates(t, "with rounds", states, api.OK)(bounds.States(l, boxOf(l), api.BdPlan{Bits: 30, Widen: 8}))
	expectProof(t, "with rounds", l, "0 1 1/512", "step 0 1 1/512", api.OK)(bounds.Derive(l, api.BdPlan{Bits: 30, Widen: 8}))
	expectProof(t, "without rounds", l, "", "", bounds.ErrWiden)(bounds.Derive(l, api.BdPlan{Bits: 30}))
}
