package ranges_test

import (
	"slices"
	"testing"

	"vernier/api"
	"vernier/ranges"
)

// TestP6_Examples: the examples of the chapter.
func TestP6_Examples(t *testing.T) {
	p, box := program(t, square), spans("1 2")
	expect(t, "Node of 1", "1 4", api.OK)(ranges.Node(p, box, 1))
	expect(t, "Node of 2", "-1 3", api.OK)(ranges.Node(p, box, 2))
	expectForm(t, "Affine of 1", "9/4 3/2 1/4", api.OK)(ranges.Affine(p, box, 1))
	expectForm(t, "Affine of 2", "3/4 1 1/4", api.OK)(ranges.Affine(p, box, 2))
	expect(t, "Slope", "1 3", api.OK)(ranges.Slope(p, box, 2, 0))
	expect(t, "Mean", "-3/4 9/4", api.OK)(ranges.Mean(p, box, 2))
	expect(t, "Monotone", "0 2", api.OK)(ranges.Monotone(p, box, 2))
	expect(t, "Best", "0 2", api.OK)(ranges.Best(p, box, 2))
	expectBound(t, "Bound", "0 2", 4, api.OK)(ranges.Bound(p, box, 2, 3))

	l := []api.PfTerm{{Coef: "-1", Pows: []int{1}}, {Coef: "1", Pows: []int{2}}}
	degrees, coefs, e := ranges.Coefs(l, box)
	if !slices.Equal(degrees, []int{2}) || texts(coefs) != "0 1/2 2" || e != api.OK {
		t.Errorf("Coefs: %v, %s, error %d", degrees, texts(coefs), e)
	}
	expect(t, "Bernstein", "0 2", api.OK)(ranges.Bernstein(l, box))

	expect(t, "Quo", "", api.ErrZero)(interval(t, "1 2").Quo(interval(t, "-1 3")))
	expect(t, "Mul", "-6 10", api.OK)(interval(t, "-1 2").Mul(interval(t, "-3 5")), api.OK)
	expect(t, "Abs", "0 3", api.OK)(interval(t, "-3 2").Abs(), api.OK)
	expect(t, "Sqrt", "11/8 2", api.OK)(interval(t, "2 4").Sqrt(4))
	expect(t, "Out", "5/16 3/4", api.OK)(interval(t, "1/3 2/3").Out(3), api.OK)
	a, b := interval(t, "0 1"), interval(t, "2 3")
	if x, is := a.Meet(b); is || show(x) != "0 0" {
		t.Errorf("Meet: %s, %v", show(x), is)
	}
	expect(t, "Join", "0 3", api.OK)(a.Join(b), api.OK)
	if i, e := ranges.Widest(spans("0 1, 2 4")); i != 1 || e != api.OK {
		t.Errorf("Widest: %d, error %d", i, e)
	}
}
