package reals_test

import (
	"testing"

	"vernier/api"
	"vernier/reals"
)

// TestP3_3_Weight: numbers, each kind, and weights above the limit.
func TestP3_3_Weight(t *testing.T) {
	l := list(t, "-3/125; 12345/7; neg 0; abs 1; sqrt 0; 0 plus 1; 2 less 3; 1 times 1; 4 by 0; 5 min 5; 0 max 9; 0")
	for i, want := range []int{3, 5, 3, 5, 3, 8, 8, 10, 6, 16, 19, 1} {
		expectInt(t, textOf(l), want, api.OK)(reals.Weight(l, i))
	}
	l = doubled(list(t, "10"), api.RlMul, 10)
	expectInt(t, "2 by 10 doublings", 2001, api.OK)(reals.Weight(l, 10))
	expectInt(t, "2 by 9 doublings", 1024, api.OK)(reals.Weight(l, 9))
	l = doubled(list(t, "10"), api.RlSub, 299)
	expectInt(t, "2 by 299 doublings", 2001, api.OK)(reals.Weight(l, 299))
	expectInt(t, "2 by 299 doublings", 0, api.ErrLong)(reals.Sign(l, 299))
}

// doubled returns a list with so many more nodes, each of twice the one before.
func doubled(l []api.RlNode, kind, times int) []api.RlNode {
	for range times {
		l = append(l, api.RlNode{Kind: kind, A: len(l) - 1, B: len(l) - 1})
	}
	return l
}

// TestP3_3_WeightLimit: weights of 2000 and of one more, before other errors of a
// node, and behind those of its operands.
func TestP3_3_WeightLimit(t *testing.T) {
	l := []api.RlNode{{Kind: api.RlNum, Val: nines}, {Kind: api.RlNum, Val: "0"}, {Kind: api.RlNeg}, {Kind: api.RlMul, A: 0, B: 1}}
	expectInt(t, "2000 digits", 1, api.OK)(reals.Sign(l, 0))
	expectInt(t, "2000 digits, negative", -1, api.OK)(reals.Sign(l, 2))
	expectInt(t, "2000 digits times 0", 0, api.ErrLong)(reals.Sign(l, 3))
	l = append(l, api.RlNode{Kind: api.RlQuo, A: 0, B: 1}, api.RlNode{Kind: api.RlQuo, A: 1, B: 1}, api.RlNode{Kind: api.RlSub, A: 5, B: 4}, api.RlNode{Kind: api.RlSub, A: 4, B: 5})
	expectInt(t, "2000 digits by 0", 0, api.ErrLong)(reals.Sign(l, 4))
	expectInt(t, "0 by 0", 0, api.ErrZero)(reals.Sign(l, 5))
	expectInt(t, "0 by 0, and what is too long", 0, api.ErrZero)(reals.Sign(l, 6))
	expectInt(t, "what is too long, and 0 by 0", 0, api.ErrLong)(reals.Sign(l, 7))
	most := api.RlNode{Kind: api.RlNum, Val: nines[:1999]}
	l = []api.RlNode{most, {Kind: api.RlNum, Val: "7"}, {Kind: api.RlAdd, A: 0, B: 1}, {Kind: api.RlAdd, A: 2, B: 1}}
	expectInt(t, "a weight of 2000", 1, api.OK)(reals.Sign(l, 2))
	expectInt(t, "a weight of 2001", 0, api.ErrLong)(reals.Sign(l, 3))
	expectInt(t, "the same node, with twice its weight", 0, api.ErrLong)(reals.Cmp(l, 0, 0))
	expectInt(t, "1999 digits and 7", 1, api.OK)(reals.Cmp(l, 0, 1))
	expectInt(t, "2000 digits and 7", 0, api.ErrLong)(reals.Cmp(l, 2, 1))
}

// TestP3_3_NodeErrors: the order of the errors of a node.
func TestP3_3_NodeErrors(t *testing.T) {
	const start = "2; 3; 5; 7; sqrt 0; sqrt 1; sqrt 2; sqrt 3; 4 plus 5; 6 plus 7; 0 less 0; -1; 0 by 10; sqrt 11; "
	for text, want := range map[string]api.Errno{
		"12 plus 13":                         api.ErrZero,   // the error of A
		"13 plus 12":                         api.ErrDomain, // likewise
		"0 plus 13":                          api.ErrDomain, // the error of B
		"sqrt 12":                            api.ErrZero,
		"neg 13":                             api.ErrDomain,
		"abs 13":                             api.ErrDomain,
		"13 by 10":                           api.ErrDomain, // before the division
		"8 by 10":                            api.ErrZero,
		"8 by 9":                             api.ErrLong, // four roots
		"8 times 9":                          api.ErrLong,
		"8 min 9":                            api.ErrLong,
		"8 plus 6; sqrt 14":                  api.ErrLong, // a fourth root
		"8 plus 6; neg 14; sqrt 15":          api.ErrDomain,
		"8 plus 6; 14 less 14; sqrt 15":      api.ErrLong, // a root 0 is kept, too
		"8 plus 6; 7 less 7; 14 by 15":       api.ErrZero, // before a fourth root
		"8 plus 9; 14 by 10":                 api.ErrLong, // the error of A is first
		"8 plus 9; 12 plus 14":               api.ErrZero,
		"8 plus 9; 14 plus 12":               api.ErrLong,
		"4 times 4; 14 less 0; 0 by 15":      api.ErrZero, // a 0 that is not plain
		"4 times 4; 14 less 0; sqrt 15":      api.OK,
		"4 times 4; 0 less 14; sqrt 15":      api.OK,
		"4 less 5; sqrt 14":                  api.ErrDomain,
		"4 by 5; 5 by 4; 14 times 15":        api.OK,
		"10 by 4":                            api.OK,
		"4 by 4; sqrt 14; sqrt 15; 16 min 4": api.OK,
	} {
		l := list(t, start+text)
		if _, e := reals.Sign(l, len(l)-1); e != want {
			t.Errorf("%s: error %d, want %d", text, e, want)
		}
	}
}

// TestP3_3_Roots: which nodes are plain, and which roots the others keep.
func TestP3_3_Roots(t *testing.T) {
	l := list(t, "2; sqrt 0; 9/4; sqrt 2; 3 plus 0; 0; sqrt 5; 1 times 5; sqrt 7; 1 times 1; sqrt 9; 1 by 10; 3 by 0; neg 12; abs 13; 2 min 1; sqrt 0; 1 plus 16; 8/27; sqrt 18; 2 max 3; 1 less 1; sqrt 3")
	for i, want := range [][]int{nil, {1}, nil, nil, nil, nil, nil, {1}, {1, 8}, {1}, {1, 10}, {1, 10}, nil, nil, nil, {1}, {16}, {1, 16}, nil, {19}, nil, {1}, {22}} {
		expectRoots(t, textOf(l[i:i+1]), want, api.OK)(reals.Roots(l, i))
		if _, plain, e := reals.Rational(l, i); plain != (want == nil) || e != api.OK {
			t.Errorf("%s: plain %v, error %d", textOf(l[i:i+1]), plain, e)
		}
	}
	for i, want := range map[int]string{0: "2", 3: "3/2", 4: "7/2", 6: "0", 12: "3/4", 13: "-3/4", 14: "3/4", 20: "9/4", 1: "0", 9: "0", 21: "0"} {
		expectRational(t, textOf(l[i:i+1]), want, want != "0" || i == 6, api.OK)(reals.Rational(l, i))
	}
}

// TestP3_3_LongValues: a value with more digits than a text may have, and its root.
func TestP3_3_LongValues(t *testing.T) {
	quotient := func(last string) api.RlNode {
		return api.RlNode{Kind: api.RlNum, Val: nines[:1000] + "/" + nines[:999] + api.Rat(last)}
	}
	l := []api.RlNode{quotient("8"), quotient("7"), {Kind: api.RlAdd, A: 0, B: 1}, {Kind: api.RlRoot, A: 2}}
	x, plain, e := reals.Rational(l, 2)
	if want := num(t, string(l[0].Val)).Add(num(t, string(l[1].Val))); x.Cmp(want) != 0 || x.Digits() != 2001 || !plain || e != api.OK {
		t.Errorf("a long sum: %d digits, %v, error %d", x.Digits(), plain, e)
	}
	expectInt(t, "its weight", 2000, api.OK)(reals.Weight(l, 2))
	expectIs(t, "its root", true, api.OK)(reals.Within(l, 3, num(t, "99/70"), num(t, "1/10000")))
}
