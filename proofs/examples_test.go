package proofs_test

import (
	"testing"

	"vernier/api"
	"vernier/exact"
	"vernier/proofs"
)

// TestP7_Examples are the examples of the chapter.
func TestP7_Examples(t *testing.T) {
	p, q, box := program(t, square), ofSquare(t), spans("1 2")
	expectCheck(t, "Q", 0, 0, api.OK)(proofs.Check(p, q))
	q.Items[0].Claims[1].Err = "1/1024"
	expectCheck(t, "Q with less", 0, 1, proofs.ErrClaim)(proofs.Check(p, q))
	expectTerms(t, "the polynomial", "-1 1; 1 2", api.OK)(proofs.Poly(p, 2))
	l := ofSquare(t).Items[0]
	l.Claims[2].Rule = api.PfMean
	expectTight(t, "PfMean", "-3/4 9/4 3/1024", api.OK)(proofs.Tight(p, box, l, 2))
	expectMean(t, "PfMean", "-3/4 9/4", api.OK)(proofs.Mean(p, box, l, 2))
	squares := []api.PfSquare{sq("1", -1, "1 1; -1/2 0")}
	l.Claims[2] = api.PfClaim{Rule: api.PfSquares, Lo: "-1/4", Low: squares}
	expectTight(t, "PfSquares", "-1/4 3 3/1024", api.OK)(proofs.Tight(p, box, l, 2))
	expectTerms(t, "the squares", "1/4 0; -1 1; 1 2", api.OK)(proofs.Squares(p, box, squares))
	l.Claims[2].Lo = "0"
	expectTight(t, "another end", "", proofs.ErrRule)(proofs.Tight(p, box, l, 2))
	h := p.Formats[0]
	expectNum(t, "RnEven", "1/1024", api.OK)(proofs.Rounding(api.RnEven, h, exact.Int(3)))
	expectNum(t, "RnUp", "1/512", api.OK)(proofs.Rounding(api.RnUp, h, exact.Int(3)))
	expectNum(t, "too much", "0", proofs.ErrFault)(proofs.Rounding(api.RnUp, h, exact.Int(65505)))
}

// expectNum expects a number and an error.
func expectNum(t *testing.T, what string, want api.Rat, wantE api.Errno) func(exact.Num, api.Errno) {
	return func(x exact.Num, e api.Errno) {
		t.Helper()
		if x.Text() != want || e != wantE {
			t.Errorf("%s: %.400s, error %d, want %.400s, error %d", what, x.Text(), e, want, wantE)
		}
	}
}

// TestP7_2_Example6 is the one of the document with a mean value that is cancelled: the
// proof of a program that adds 1 and takes it away.
func TestP7_2_Example6(t *testing.T) {
	p := program(t, "format h 5 11; input x : h from 0 to 1; let a : h = x + 1; let b : h = a - 1; result b")
	// Nodes: x, 1, the sum, 1, the difference.
	q := proof("0 1 3/2048", leaf(t, "step 0 1 0; step 1 1 0; step 1 2 1/1024; step 1 1 0; step 0 1 3/2048", ""))
	expectCheck(t, "as in the document", 0, 0, api.OK)(proofs.Check(p, q))
	q.Err = "1/1024"
	expectCheck(t, "less is claimed", 0, -1, proofs.ErrResult)(proofs.Check(p, q))
}
