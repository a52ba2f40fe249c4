package ranges_test

import (
	"fmt"
	"math"
	"strings"
	"testing"

	"vernier/api"
	"vernier/lang"
	"vernier/ranges"
)

// calls has all functions with a program, a box and a node, each telling whether all
// results but the error are zero.
func calls() map[string]func(p api.Prog, box []api.Span, node int) (zero bool, e api.Errno) {
	isZero := func(a ranges.Interval) bool { return show(a) == "0 0" }
	return map[string]func(p api.Prog, box []api.Span, node int) (bool, api.Errno){
		"Node": func(p api.Prog, box []api.Span, node int) (bool, api.Errno) {
			a, e := ranges.Node(p, box, node)
			return isZero(a), e
		},
		"Affine": func(p api.Prog, box []api.Span, node int) (bool, api.Errno) {
			center, slopes, radius, e := ranges.Affine(p, box, node)
			return center.Sign() == 0 && len(slopes) == 0 && radius.Sign() == 0, e
		},
		"Slope": func(p api.Prog, box []api.Span, node int) (bool, api.Errno) {
			a, e := ranges.Slope(p, box, node, 0)
			return isZero(a), e
		},
		"Mean": func(p api.Prog, box []api.Span, node int) (bool, api.Errno) {
			a, e := ranges.Mean(p, box, node)
			return isZero(a), e
		},
		"Monotone": func(p api.Prog, box []api.Span, node int) (bool, api.Errno) {
			a, e := ranges.Monotone(p, box, node)
			return isZero(a), e
		},
		"Best": func(p api.Prog, box []api.Span, node int) (bool, api.Errno) {
			a, e := ranges.Best(p, box, node)
			return isZero(a), e
		},
		"Bound": func(p api.Prog, box []api.Span, node int) (bool, api.Errno) {
			a, pieces, e := ranges.Bound(p, box, node, 2)
			return isZero(a) && pieces == 0, e
		},
	}
}

// TestP6_3_Arguments: the errors that all functions with a program have, in their
// order.
func TestP6_3_Arguments(t *testing.T) {
	p := program(t, "format s 8 24; input x : s from 0 to 1; input y : s from 0 to 1; let a : s = x * y; result a")
	wrong := p
	wrong.Result = 7
	noFormat := p
	noFormat.Formats = []api.Format{{E: 1, P: 8}}
	ok := spans("0 1, 2 3")
	type input struct {
		p    api.Prog
		box  []api.Span
		node int
		e    api.Errno
	}
	all := []input{
		{wrong, spans("x 1"), 9, api.ErrRange}, {noFormat, nil, 9, api.ErrArg}, {api.Prog{}, ok, 0, api.ErrArg},
		{p, nil, 9, api.ErrArg}, {p, spans("x 1"), 9, api.ErrArg}, {p, spans("0 1, 2 3, 4 5"), 2, api.ErrArg}, {p, spans("1 0"), -1, api.ErrArg},
		{p, ok, 3, api.ErrRange}, {p, ok, -1, api.ErrRange}, {p, ok, math.MaxInt, api.ErrRange}, {p, ok, math.MinInt, api.ErrRange},
	}
	for _, c := range wrongBoxes {
		all = append(all, input{p, spans(c.box), 2, c.e}, input{p, spans(c.box), 9, c.e})
	}
	for name, call := range calls() {
		for i, c := range all {
			if zero, e := call(c.p, c.box, c.node); !zero || e != c.e {
				t.Errorf("%s, %d: zero %v, error %d, want %d", name, i, zero, e, c.e)
			}
		}
		if _, e := call(p, ok, 2); e != api.OK {
			t.Errorf("%s: error %d", name, e)
		}
	}
	// The formats of the inputs, and their own box, make no difference.
	if _, e := ranges.Node(p, spans("-1/3 1/3, 5 700"), 2); e != api.OK {
		t.Errorf("another box: error %d", e)
	}
}

// TestP6_3_Operations: the range of each operation.
func TestP6_3_Operations(t *testing.T) {
	for _, c := range []struct{ lines, box, want string }{
		{"let r : s = x + y", "1 2, -3 5, 0 0", "-2 7"},
		{"let r : s = x - y", "1 2, -3 5, 0 0", "-4 5"},
		{"let r : s = x - x", "1 2, -3 5, 0 0", "-1 1"},
		{"let r : s = x * y", "1 2, -3 5, 0 0", "-6 10"},
		{"let r : s = x * x", "-1 2, -3 5, 0 0", "-2 4"},
		{"let r : s = x / y", "1 2, 4 8, 0 0", "1/8 1/2"},
		{"let r : s = x / y", "-1 2, -8 -4, 0 0", "-1/2 1/4"},
		{"let r : s = - x", "-1 2, -3 5, 0 0", "-2 1"},
		{"let r : s = abs(x)", "-1 2, -3 5, 0 0", "0 2"},
		{"let r : s = abs(x)", "-3 -1, -3 5, 0 0", "1 3"},
		{"let r : s = s(x)", "-1 2, -3 5, 0 0", "-1 2"},
		{"let r : s = sqrt(x)", "1/4 9, -3 5, 0 0", "1/2 3"},
		{"let r : s = sqrt(x)", "0 0, -3 5, 0 0", "0 0"},
		{"let r : s = min(x, y)", "1 7, -3 5, 0 0", "-3 5"},
		{"let r : s = max(x, y)", "1 7, -3 5, 0 0", "1 7"},
		{"let r : s = max(x, y)", "1 3, 2 5, 0 0", "2 5"},
		{"let r : s = min(x, y)", "1 3, 2 5, 0 0", "1 3"},
		{"let r : s = fma(x, y, z)", "1 2, -3 5, 10 20", "4 30"},
		{"let r : s = if x <= y then 1 else z", "1 2, 3 4, 10 20", "1 1"},
		{"let r : s = if x <= y then 1 else z", "1 2, 2 4, 10 20", "1 1"},
		{"let r : s = if x <= y then 1 else z", "1 2, 3/2 4, 10 20", "1 20"},
		{"let r : s = if x <= y then 1 else z", "4 5, 3/2 4, 10 20", "1 20"},
		{"let r : s = if x <= y then 1 else z", "5 6, 3/2 4, 10 20", "10 20"},
		{"let r : s = if x <= y then 30 else z", "2 2, 2 2, 10 20", "30 30"},
		{"let r : s = if x <= x then 30 else z", "1 2, 2 2, 10 20", "10 30"},
	} {
		p, node := of(t, c.lines)
		expect(t, c.lines+" over "+c.box, c.want, api.OK)(ranges.Node(p, spans(c.box), node))
	}
	p, _ := of(t, "let r : s = {1/3}")
	expect(t, "an input", "-1/3 1/3", api.OK)(ranges.Node(p, spans("0 1, -1/3 1/3, 0 1"), 1))
	expect(t, "a constant", "1/3 1/3", api.OK)(ranges.Node(p, spans("0 1, -1/3 1/3, 0 1"), 3))
}

// out96 is an interval that is rounded outward to 96 bits.
func out96(lo, hi string) string {
	return span{downTo(toRat(api.Rat(lo)), 96), upTo(toRat(api.Rat(hi)), 96)}.text()
}

// TestP6_3_Rounding: all but inputs and constants are rounded outward to 96 bits.
func TestP6_3_Rounding(t *testing.T) {
	for _, c := range []struct{ lines, want string }{
		{"let r : s = - x", out96("-2/3", "-1/3")},
		{"let r : s = abs(x)", out96("1/3", "2/3")},
		{"let r : s = s(x)", out96("1/3", "2/3")},
		{"let r : s = min(x, 1)", out96("1/3", "2/3")},
		{"let r : s = max(x, 0)", out96("1/3", "2/3")},
		{"let r : s = x + {1/5}", out96("8/15", "13/15")},
		{"let r : s = x - {1/5}", out96("2/15", "7/15")},
		{"let r : s = x * {1/5}", out96("1/15", "2/15")},
		{"let r : s = x / 5", out96("1/15", "2/15")},
		{"let r : s = fma(x, {1/5}, 1)", out96("16/15", "17/15")},
		{"let r : s = if x <= 1 then {-1/7} else 0", out96("-1/7", "-1/7")},
		{"let r : s = if 1 <= x then 0 else x", out96("1/3", "2/3")},
		{"let r : s = if {1/2} <= x then 0 else x", "0 " + strings.Fields(out96("1/3", "2/3"))[1]},
	} {
		p, node := of(t, c.lines)
		expect(t, c.lines, c.want, api.OK)(ranges.Node(p, spans("1/3 2/3, 0 0, 0 0"), node))
	}
	p, node := of(t, "let r : s = sqrt(x)")
	root := span{rootDownTo(rat(1, 3), 96), rootUpTo(rat(2, 3), 96)}.text()
	expect(t, "sqrt", root, api.OK)(ranges.Node(p, spans("1/3 2/3, 0 0, 0 0"), node))
	// The product of OpFma is not rounded: a has 61 bits, its square 121.
	a := toText(sum(rat(1, 1), twoTo(-60)))
	p, node = of(t, "let r : s = fma(x, x, -1)")
	want := toText(sum(twoTo(-59), twoTo(-120)))
	expect(t, "fma", want+" "+want, api.OK)(ranges.Node(p, spans(a+" "+a+", 0 0, 0 0"), node))
	p, node = of(t, "let r : s = x * x - 1")
	want = toText(twoTo(-59)) + " " + toText(sum(twoTo(-59), twoTo(-95)))
	expect(t, "a product and a sum", want, api.OK)(ranges.Node(p, spans(a+" "+a+", 0 0, 0 0"), node))
}

// TestP6_3_Errors: the first error of the nodes on which a node depends.
func TestP6_3_Errors(t *testing.T) {
	for _, c := range []struct {
		lines, box string
		e          api.Errno
	}{
		{"let r : s = 1 / x", "0 1, 0 1, 0 1", api.ErrZero},
		{"let r : s = 1 / x", "-1 0, 0 1, 0 1", api.ErrZero},
		{"let r : s = 1 / x", "-1 1, 0 1, 0 1", api.ErrZero},
		{"let r : s = 1 / x", "0 0, 0 1, 0 1", api.ErrZero},
		{"let r : s = sqrt(x)", "-1 1, 0 1, 0 1", api.ErrDomain},
		{"let r : s = sqrt(x)", "-2 -1, 0 1, 0 1", api.ErrDomain},
		{"let a : s = sqrt(x); let b : s = 1 / y; let r : s = b + a", "-1 1, 0 1, 0 1", api.ErrDomain},
		{"let b : s = 1 / y; let a : s = sqrt(x); let r : s = a + b", "-1 1, 0 1, 0 1", api.ErrZero},
		{"let b : s = 1 / y; let a : s = sqrt(x); let r : s = a + x", "-1 1, 0 1, 0 1", api.ErrDomain},
		{"let b : s = 1 / y; let a : s = sqrt(x); let r : s = b + x", "-1 1, 0 1, 0 1", api.ErrZero},
		{"let r : s = if 1 <= 2 then 3 else 1 / x", "0 1, 0 1, 0 1", api.ErrZero},
		{"let a : s = x * {" + digits(2000) + "}; let b : s = a * 10; let r : s = b + 1 / x", "0 1, 0 1, 0 1", api.ErrLong},
		{"let b : s = 1 / x; let a : s = {" + digits(2000) + "}; let r : s = (a * 10) + b", "0 1, 0 1, 0 1", api.ErrZero},
	} {
		p, node := of(t, c.lines)
		expect(t, c.lines, "", c.e)(ranges.Node(p, spans(c.box), node))
		if _, _, _, e := ranges.Affine(p, spans(c.box), node); e != c.e && c.e != api.ErrLong {
			t.Errorf("%.60s: Affine has the error %d, want %d", c.lines, e, c.e)
		}
	}
	p, _ := of(t, "let a : s = 1 / x; let b : s = sqrt(x - 5); let r : s = y + 1")
	expect(t, "others have errors", "1 2", api.OK)(ranges.Node(p, spans("0 1, 0 1, 0 1"), p.Result))
}

// TestP6_3_Long: an end of a range has at most 2000 digits.
func TestP6_3_Long(t *testing.T) {
	large, small := digits(2000), "1/"+toText(twoTo(6643)) // both have 2000 digits
	for _, c := range []struct {
		lines, box string
		e          api.Errno
	}{
		{"let r : s = x + 0", "0 " + large + ", 0 1, 0 1", api.OK},
		{"let r : s = x * 9", "0 " + large + ", 0 1, 0 1", api.OK},
		{"let r : s = x * 10", "0 " + large + ", 0 1, 0 1", api.ErrLong},
		{"let r : s = x * -10", "0 " + large + ", 0 1, 0 1", api.ErrLong},
		{"let r : s = x * -10", "-" + large + " 0, 0 1, 0 1", api.ErrLong},
		{"let r : s = x * 1", "0 " + small + ", 0 1, 0 1", api.OK},
		{"let r : s = x / 2", "0 " + small + ", 0 1, 0 1", api.ErrLong},
		{"let r : s = x / 2", small + " 1, 0 1, 0 1", api.ErrLong},
		{"let r : s = y + 2", large + " " + large + ", 0 1, 0 1", api.OK},
		{"let a : s = x * x; let r : s = y + 2", large + " " + large + ", 0 1, 0 1", api.OK},
		{"let a : s = x * x; let r : s = min(y, a)", large + " " + large + ", 0 1, 0 1", api.ErrLong},
	} {
		p, node := of(t, c.lines)
		if a, e := ranges.Node(p, spans(c.box), node); e != c.e || e != api.OK && show(a) != "0 0" {
			t.Errorf("%s over %.20s: %.40s, error %d, want %d", c.lines, c.box, show(a), e, c.e)
		}
	}
}

// TestP6_3_States: nodes that depend on a state have no range, others of the loop
// have one.
func TestP6_3_States(t *testing.T) {
	p := program(t, "format s 8 24; input x : s from 1 to 2; state t : s = x; loop; let a : s = x + 1; let b : s = 1 / (t - t); next t = a; end; let c : s = x * 2; let d : s = t * 2; result c")
	states := 0
	for i, n := range p.Nodes {
		depends := false
		for _, k := range dependsOn(p, i) {
			depends = depends || p.Nodes[k].Op == api.OpState
		}
		for name, call := range calls() {
			zero, e := call(p, spans("1 2"), i)
			wanted := e == api.OK && !zero
			if depends {
				wanted = e == ranges.ErrState && zero
				if name == "Slope" || name == "Mean" || name == "Monotone" {
					wanted = e == ranges.ErrRule && zero
				}
			}
			if n.Op == api.OpConst && name == "Slope" {
				wanted = e == api.OK && zero
			}
			if !wanted {
				t.Errorf("%s of node %d: zero %v, error %d, depends %v", name, i, zero, e, depends)
			}
		}
		if depends {
			states++
		}
	}
	if states < 4 {
		t.Errorf("only %d depend on states", states)
	}
}

// TestP6_3_Many: a program with as many nodes and inputs as there may be.
func TestP6_3_Many(t *testing.T) {
	lines := "format s 8 24"
	for i := range 6 {
		lines += fmt.Sprintf("; input x%d : s from 0 to 1", i)
	}
	lines += "; let n6 : s = x0 + x5"
	for i := 7; i < 64; i++ {
		lines += fmt.Sprintf("; let n%d : s = n%d + x%d", i, i-1, i%6)
	}
	p := program(t, lines+"; result n63")
	if _, _, e := lang.Check(p); e != api.OK || len(p.Nodes) != 64 {
		t.Fatalf("%d nodes, error %d", len(p.Nodes), e)
	}
	box := spans("0 1, 0 1, 0 1, 0 1, 0 1, 0 1")
	expect(t, "all nodes", "0 59", api.OK)(ranges.Node(p, box, 63))
	expectForm(t, "all nodes", "59/2 5 5 5 5 9/2 5 0", api.OK)(ranges.Affine(p, box, 63))
}
