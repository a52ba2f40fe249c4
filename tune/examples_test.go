package tune_test

import (
	"testing"

	"vernier/api"
	"vernier/bounds"
	"vernier/tune"
)

// TestP10_Examples has the examples of the chapter.
func TestP10_Examples(t *testing.T) {
	p := program(t, squareWide)
	narrow, wide := integers("0"), integers("1")
	expectInt(t, "Cost of h", 1, api.OK)(tune.Cost(p, example("1/1000"), narrow))
	expectInt(t, "Cost of s", 3, api.OK)(tune.Cost(p, example("1/1000"), wide))
	expectRow(t, "Row of h", "0 costs 1, error 1/512", api.OK)(tune.Row(p, example("1/1000"), narrow))
	expectRow(t, "Row of s", "1 costs 3, error 1/4194304, fits", api.OK)(tune.Row(p, example("1/1000"), wide))
	for _, x := range []struct {
		budget  api.Rat
		formats []int
		want    string
		minimal bool
	}{
		{"1/1000", wide, "1 costs 3, error 1/4194304, fits", true},
		{"1/500", narrow, "0 costs 1, error 1/512, fits", false},
	} {
		q, _ := tune.Program(p, example(x.budget), x.formats)
		proof, e := bounds.Derive(q, example(x.budget).Plan)
		if e != api.OK {
			t.Fatalf("Derive: error %d", e)
		}
		expectBest(t, "Best", x.want, proof, api.OK)(tune.Best(p, example(x.budget)))
		expectBool(t, "Minimal of s", x.minimal, api.OK)(tune.Minimal(p, example(x.budget), wide))
	}
	expectPoints(t, "Points of x, 2", "1 2", api.OK)(tune.Points(p, 0, 2))
	expectPoints(t, "Points of x, 3", "1 3/2 2", api.OK)(tune.Points(p, 0, 3))
	h, e := tune.Program(p, example("1"), narrow)
	expectErrno(t, "Program of h", e, api.OK)
	expectFound(t, "Measure", "4097/4096: error 511/1048576", api.OK)(tune.Measure(h, rats("4097/4096"), 0, 20))
	expectInt(t, "Share of 3/4, 1", 75, api.OK)(tune.Share("3/4", "1"))
	expectInt(t, "Share of 2, 1", 200, api.OK)(tune.Share("2", "1"))
	expectInt(t, "Share of 1, 0", 0, api.ErrZero)(tune.Share("1", "0"))
}

// TestP10_DocExamples has the examples of DOC.md that are about this layer.
func TestP10_DocExamples(t *testing.T) {
	q := program(t, squareWide)
	plan := api.BdPlan{Bits: 64}
	r, proof, e := tune.Best(q, api.TnTask{Groups: []int{-1, 0}, Costs: []int{1, 3}, Budget: "1/500", Plan: plan})
	expectRow(t, "tune", "0 costs 1, error 1/512, fits", api.OK)(r, e)
	expectInt(t, "share", 50, api.OK)(tune.Share("1/1024", proof.Err))
	expectFound(t, "worst", "3: fault 1 1 0", api.OK)(tune.Worst(program(t, tiny), 2, 0, 10, 5))
}
