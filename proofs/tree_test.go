package proofs_test

import (
	"testing"

	"vernier/api"
	"vernier/proofs"
)

// TestP7_6_Boxes: the leaves of a proof, whatever is claimed in them.
func TestP7_6_Boxes(t *testing.T) {
	p, q := program(t, two), ofTwo(t)
	boxes := []string{"0 1, 1 3/2", "0 1, 3/2 3", "1 2, 1 3"}
	expectBoxes(t, "three leaves", []int{2, 3, 4}, boxes, api.OK)(proofs.Boxes(p, q))
	for i := range 3 {
		q.Items[2+i].Claims = make([]api.PfClaim, 3)
	}
	expectBoxes(t, "empty claims", []int{2, 3, 4}, boxes, api.OK)(proofs.Boxes(p, q))
	q.Items[2].Claims[0] = api.PfClaim{Rule: 77, Lo: "x", Low: make([]api.PfSquare, 50)}
	expectBoxes(t, "other claims", []int{2, 3, 4}, boxes, api.OK)(proofs.Boxes(p, q))
	// A split of the upper half, and one of an upper half of a lower one.
	item := q.Items[2]
	q.Items = []api.PfItem{split(1, "2"), split(1, "3/2"), item, split(0, "1/3"), item, item, split(1, "8/3"), item, item}
	expectBoxes(t, "five leaves", []int{2, 4, 5, 7, 8}, []string{"0 2, 1 3/2", "0 1/3, 3/2 2", "1/3 2, 3/2 2", "0 2, 2 8/3", "0 2, 8/3 3"}, api.OK)(proofs.Boxes(p, q))
	q.Items = q.Items[:8]
	expectBoxes(t, "an item is not there", nil, nil, proofs.ErrTree)(proofs.Boxes(p, q))
	q = ofTwo(t)
	q.Lo = "6"
	expectBoxes(t, "the claim of the proof", nil, nil, proofs.ErrClaim)(proofs.Boxes(p, q))
	q.Lo = ""
	expectBoxes(t, "the claim of the proof", nil, nil, api.ErrForm)(proofs.Boxes(p, q))
	q.Items = make([]api.PfItem, 201)
	expectBoxes(t, "many items", nil, nil, api.ErrLong)(proofs.Boxes(p, q))
	p.Result = -1
	expectBoxes(t, "no program", nil, nil, api.ErrRange)(proofs.Boxes(p, q))
	p = program(t, "format s 8 24; let r : s = 1; result r")
	expectBoxes(t, "no inputs", []int{0}, []string{""}, api.OK)(proofs.Boxes(p, proof("1 1 0", leaf(t, "-", ""))))
	expectBoxes(t, "no inputs, and a split", nil, nil, proofs.ErrTree)(proofs.Boxes(p, proof("1 1 0", split(0, "1"), leaf(t, "-", ""), leaf(t, "-", ""))))
}

// TestP7_6_Find: the first leaf with an input in its box.
func TestP7_6_Find(t *testing.T) {
	p, q := program(t, two), ofTwo(t)
	for i := range 3 {
		q.Items[2+i].Claims = make([]api.PfClaim, 3)
	}
	find := func(name string, item int, e api.Errno, in ...api.Rat) {
		t.Helper()
		if got, gotE := proofs.Find(p, q, in); got != item || gotE != e {
			t.Errorf("%s: %d, error %d, want %d, error %d", name, got, gotE, item, e)
		}
	}
	find("the first leaf", 2, api.OK, "0", "1")
	find("the second leaf", 3, api.OK, "1/2", "2")
	find("the third leaf", 4, api.OK, "3/2", "2")
	find("the end of the box", 4, api.OK, "2", "3")
	find("between two leaves", 2, api.OK, "1/2", "3/2")
	find("between two others", 3, api.OK, "1", "3")
	find("between three", 2, api.OK, "1", "3/2")
	find("no value of the format", 4, api.OK, "4/3", "10/7")
	find("fewer numbers", 0, api.ErrArg, "x")
	find("more numbers", 0, api.ErrArg, "x", "1", "1")
	find("no numbers", 0, api.ErrArg)
	find("no number", 0, api.ErrForm, "9", "2/4")
	find("a long number", 0, api.ErrLong, long, "x")
	find("below the box", 0, api.ErrRange, "-1/1000", "2")
	find("above the box", 0, api.ErrRange, "1", "3001/1000")
	q.Items = q.Items[:4]
	find("an item is not there", 0, proofs.ErrTree, "x")
	q.Err = "-1"
	find("the claim of the proof", 0, proofs.ErrClaim, "x")
	p.Mode = -1
	find("no program", 0, api.ErrArg, "x")
	p = program(t, "format s 8 24; let r : s = 1; result r")
	q = proof("1 1 0", leaf(t, "-", ""))
	find("no inputs", 0, api.OK)
	find("an input", 0, api.ErrArg, "1")
}
