package ranges_test

import (
	"fmt"
	"math"
	"testing"

	"vernier/api"
	"vernier/ranges"
)

// TestP6_5_Best: what all ranges contain that have no error.
func TestP6_5_Best(t *testing.T) {
	small := "1/" + toText(twoTo(6643)) // it has 2000 digits, half of it 2001
	for _, c := range []struct {
		lines, box, want string
		e                api.Errno
	}{
		{"let r : s = x * x - x", "1 2, 0 1, 0 1", "0 2", api.OK},
		{"let r : s = x * x - x", "0 1, 0 1, 0 1", "-1/2 0", api.OK},                                        // by the form: -1/4, and 1/4 around it
		{"let r : s = x * x", "-1 1, 0 1, 0 1", "-1 1", api.OK},                                             // all but the mean value form, from -2 to 2
		{"let r : s = x * y - y * x", "0 1, 0 1, 0 1", "-1/2 1/2", api.OK},                                  // by the form
		{"let r : s = abs(x) - x", "-1 2, 0 1, 0 1", "-2/3 5/2", api.ErrNone},                               // see below
		{"let r : s = min(x, y)", "0 1, 2 3, 0 1", "0 1", api.OK},                                           // not smooth
		{"let r : s = 1 / (x * x - x + 1)", "0 1, 0 1, 0 1", "1 2", api.OK},                                 // by the form alone
		{"let r : s = sqrt(x * x - x + 1) * 0", "0 1, 0 1, 0 1", "0 0", api.OK},                             // by intervals: from 0 on
		{"let r : s = 1 / x", "-1 1, 0 1, 0 1", "", api.ErrZero},                                            // all have errors
		{"let r : s = sqrt(x * y - 2)", "0 1, 0 1, 0 1", "", api.ErrDomain},                                 // likewise
		{"let r : s = x + y", "0 1, 0 " + small + ", 0 1", "0 " + out96("1", toOneMore(small))[2:], api.OK}, // by intervals, and by monotony
	} {
		p, node := of(t, c.lines)
		if c.e == api.ErrNone { // the form has slopes that are rounded: this is the second making's
			best, e := newModel(p, node).bestOf(toSpans(spans(c.box)))
			c.want, c.e = best.text(), e
		}
		expect(t, c.lines+" over "+c.box, c.want, c.e)(ranges.Best(p, spans(c.box), node))
	}
	p, _ := of(t, "let r : s = x")
	expect(t, "an input", "1/3 2/3", api.OK)(ranges.Best(p, spans("1/3 2/3, 0 1, 0 1"), 0))
	expect(t, "a short input", "0 "+small, api.OK)(ranges.Best(p, spans("0 "+small+", 0 1, 0 1"), 0))
}

// toOneMore returns the text of a number and 1.
func toOneMore(text string) string { return toText(sum(toRat(api.Rat(text)), rat(1, 1))) }

// TestP6_5_Splits: the pieces of a box, split by split.
func TestP6_5_Splits(t *testing.T) {
	p, node := of(t, "let r : s = x * x - x")
	// Both pieces from 0 to 1 are monotone, from the second split on.
	for splits, want := range []string{"-1/2 0", "-1/4 0", "-1/4 0", "-1/4 0"} {
		expectBound(t, fmt.Sprint(splits, " splits"), want, splits+1, api.OK)(ranges.Bound(p, spans("0 1, 0 0, 0 0"), node, splits))
	}
	// The inputs are split in turn, as halves are less wide; those without a width
	// never are.
	p, node = of(t, "let r : s = x * y - y * x")
	for splits, want := range []string{"-1/2 1/2", "-1/4 1/4", "-1/4 1/4", "-1/8 1/8", "-1/8 1/8"} {
		expectBound(t, fmt.Sprint("two inputs, ", splits, " splits"), want, splits+1, api.OK)(ranges.Bound(p, spans("0 1, 0 1, 7 7"), node, splits))
	}
	for _, splits := range []int{-1, 51, math.MaxInt, math.MinInt} {
		expectBound(t, fmt.Sprint(splits, " splits"), "", 0, api.ErrRange)(ranges.Bound(p, spans("0 1, 0 1, 0 1"), node, splits))
	}
	expectBound(t, "50 splits", "-1/64 1/64", 51, api.OK)(ranges.Bound(p, spans("0 1, 0 1, 7 7"), node, 50))
	// An input is split although the node does not depend on it.
	expectBound(t, "50 splits of three inputs", "-1/32 1/32", 51, api.OK)(ranges.Bound(p, spans("0 1, 0 1, 0 1"), node, 50))
	expectBound(t, "a point", "0 0", 1, api.OK)(ranges.Bound(p, spans("3 3, 4 4, 1/3 1/3"), node, 50))
	p = program(t, "format s 8 24; let r : s = sqrt(2); result r")
	root := span{rootDownTo(rat(2, 1), 96), rootUpTo(rat(2, 1), 96)}.text()
	expectBound(t, "no inputs", root, 1, api.OK)(ranges.Bound(p, nil, 1, 50))
}

// TestP6_5_Order: which piece is split: the first one with the least lower end, then
// the first one with the greatest upper end, and so on; an error comes before.
func TestP6_5_Order(t *testing.T) {
	// abs is not smooth: with z from -1 to 1, z abs(z) has looser ranges in pieces with 0.
	p, node := of(t, "let r : s = abs(x) * y")
	m := newModel(p, node)
	for _, box := range []string{"-1 1, -1 1, 0 0", "-3 1, -1 2, 0 0", "-1 3, -2 1, 0 0", "-1/3 5, 1/7 2, 0 5"} {
		for splits := range 16 {
			want, pieces, e := m.boundOf(toSpans(spans(box)), splits)
			expectBound(t, fmt.Sprint(box, ", ", splits, " splits"), want.text(), pieces, e)(ranges.Bound(p, spans(box), node, splits))
		}
	}
	// A quotient whose divisor may be 0 in all pieces but those far from it: by splits
	// of the first piece with an error it becomes certain that it is not.
	p, node = of(t, "let r : s = 1 / (x * x - x + {3/10})")
	failed := 0
	for splits := range 12 {
		want, pieces, e := newModel(p, node).boundOf(toSpans(spans("0 1, 0 0, 0 0")), splits)
		a, n, gotE := ranges.Bound(p, spans("0 1, 0 0, 0 0"), node, splits)
		if e != api.OK {
			failed++
			expectBound(t, fmt.Sprint("with an error, ", splits, " splits"), "", 0, api.ErrZero)(a, n, gotE)
			continue
		}
		expectBound(t, fmt.Sprint("without an error, ", splits, " splits"), want.text(), pieces, api.OK)(a, n, gotE)
	}
	if failed == 0 || failed == 12 {
		t.Errorf("%d times with an error", failed)
	}
	// The first piece with an error cannot be split: others are not.
	p, node = of(t, "let r : s = 1 / x")
	expectBound(t, "always an error", "", 0, api.ErrZero)(ranges.Bound(p, spans("-1 1, 0 0, 0 0"), node, 50))
	expectBound(t, "an error of a point", "", 0, api.ErrZero)(ranges.Bound(p, spans("0 0, 0 0, 0 0"), node, 50))
	p, node = of(t, "let a : s = 1 / x; let r : s = a + sqrt(x)")
	expectBound(t, "the error of the first piece", "", 0, api.ErrDomain)(ranges.Bound(p, spans("-2 2, 0 0, 0 0"), node, 3))
	expectBound(t, "the error of the whole", "", 0, api.ErrZero)(ranges.Bound(p, spans("-2 2, 0 0, 0 0"), node, 0))
}

// TestP6_5_LongHalves: a half with an error has the range of a piece without one.
func TestP6_5_LongHalves(t *testing.T) {
	small := "1/" + toText(twoTo(6643)) // it has 2000 digits, half of it 2001
	p, node := of(t, "let r : s = x * 1")
	box := spans("0 " + small + ", 0 0, 0 0")
	for splits := range 4 {
		expectBound(t, fmt.Sprint(splits, " splits"), "0 "+small, splits+1, api.OK)(ranges.Bound(p, box, node, splits))
	}
	// An end with 2000 digits at one side: that half alone is too long.
	p, node = of(t, "let r : s = abs(x) - abs(x)")
	box = spans("-1 " + small + ", 0 0, 0 0")
	want, pieces, e := newModel(p, node).boundOf(toSpans(box), 6)
	expectBound(t, "6 splits", want.text(), pieces, e)(ranges.Bound(p, box, node, 6))
	if e != api.OK || pieces != 7 {
		t.Errorf("%d pieces, error %d", pieces, e)
	}
}
