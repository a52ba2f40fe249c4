package ranges_test

import (
	"math"
	"math/rand"
	"testing"

	"vernier/api"
	"vernier/exact"
	"vernier/ranges"
)

// TestP6_4_Slope: the derivative of each operation.
func TestP6_4_Slope(t *testing.T) {
	for _, c := range []struct {
		lines, box string
		input      int
		want       string
	}{
		{"let r : s = x + y", "1 2, 3 5, 0 1", 0, "1 1"},
		{"let r : s = x + y", "1 2, 3 5, 0 1", 2, "0 0"},
		{"let r : s = x + x", "1 2, 3 5, 0 1", 0, "2 2"},
		{"let r : s = x - y", "1 2, 3 5, 0 1", 1, "-1 -1"},
		{"let r : s = - x", "1 2, 3 5, 0 1", 0, "-1 -1"},
		{"let r : s = s(x)", "1 2, 3 5, 0 1", 0, "1 1"},
		{"let r : s = 5", "1 2, 3 5, 0 1", 0, "0 0"},
		{"let r : s = x * y", "1 2, 3 5, 0 1", 0, "3 5"},
		{"let r : s = x * y", "1 2, 3 5, 0 1", 1, "1 2"},
		{"let r : s = x * x", "-1 2, 3 5, 0 1", 0, "-2 4"},
		{"let r : s = fma(x, y, x)", "1 2, 3 5, 0 1", 0, "4 6"},
		{"let r : s = fma(x, y, z)", "1 2, 3 5, 0 1", 2, "1 1"},
		{"let r : s = fma(x, y, z)", "1 2, 3 5, 0 1", 1, "1 2"},
		{"let r : s = x / y", "1 2, 2 4, 0 1", 0, "1/8 1"},
		{"let r : s = x / y", "1 2, 2 4, 0 1", 1, "-1/2 -1/16"},
		{"let r : s = x / y", "-1 2, -4 -2, 0 1", 1, "-1/2 1/4"},
		{"let r : s = x / x", "1 2, 2 4, 0 1", 0, "-1 1"},
		{"let r : s = sqrt(x)", "1/4 4, 2 4, 0 1", 0, "1/4 1"},
		{"let r : s = sqrt(x) * sqrt(y)", "1/4 4, 4 4, 0 1", 0, "1/2 2"},
		{"let r : s = sqrt(x)", "1/4 4, 2 4, 0 1", 1, "0 0"},
	} {
		p, node := of(t, c.lines)
		expect(t, c.lines+" over "+c.box, c.want, api.OK)(ranges.Slope(p, spans(c.box), node, c.input))
	}
	p, _ := of(t, "let r : s = {1/3}")
	box := spans("0 1, 0 1, 0 1")
	expect(t, "an input", "1 1", api.OK)(ranges.Slope(p, box, 1, 1))
	expect(t, "another input", "0 0", api.OK)(ranges.Slope(p, box, 1, 2))
	expect(t, "a constant", "0 0", api.OK)(ranges.Slope(p, box, 3, 0))
}

// TestP6_4_Rounding: each derivative is rounded outward to 96 bits, but nothing within
// an expression.
func TestP6_4_Rounding(t *testing.T) {
	p, node := of(t, "let r : s = y * x")
	expect(t, "a product", out96("1/3", "2/3"), api.OK)(ranges.Slope(p, spans("1 2, 1/3 2/3, 0 1"), node, 0))
	p, node = of(t, "let r : s = y * (x * {1/3})")
	third := toSpans(spans("1/3 1/3"))[0].out(96)
	want := toSpans(spans("1/7 2/7"))[0].by(third).out(96)
	expect(t, "two products", want.text(), api.OK)(ranges.Slope(p, spans("1 2, 1/7 2/7, 0 1"), node, 0))
	p, node = of(t, "let r : s = x / y")
	expect(t, "a quotient", out96("1/9", "3"), api.OK)(ranges.Slope(p, spans("1 2, 1 3, 0 1"), node, 0))
}

// TestP6_4_Smooth: which nodes are smooth, and in which order errors come.
func TestP6_4_Smooth(t *testing.T) {
	for _, c := range []struct {
		lines, box string
		e          api.Errno // of Slope, Mean and Monotone
	}{
		{"let r : s = abs(x)", "1 2, 1 2, 1 2", ranges.ErrRule},
		{"let r : s = min(x, y)", "1 2, 1 2, 1 2", ranges.ErrRule},
		{"let r : s = max(x, y)", "1 2, 1 2, 1 2", ranges.ErrRule},
		{"let r : s = if x <= y then x else y", "1 2, 1 2, 1 2", ranges.ErrRule},
		{"let r : s = 1 + abs(x)", "1 2, 1 2, 1 2", ranges.ErrRule},
		{"let r : s = sqrt(s(- abs(x)))", "1 2, 1 2, 1 2", ranges.ErrRule},
		{"let a : s = 1 / (x - x); let r : s = a + abs(x)", "1 2, 1 2, 1 2", ranges.ErrRule},
		{"let a : s = abs(x); let r : s = y + 1", "1 2, 1 2, 1 2", api.OK},
		{"let r : s = fma(x / y, - s(z), sqrt(x) - 1) + z * x", "1 2, 1 2, 1 2", api.OK},
		{"let r : s = x / y", "1 2, 0 2, 1 2", api.ErrZero},
		{"let r : s = sqrt(x)", "-1 2, 0 2, 1 2", api.ErrDomain},
		{"let r : s = sqrt(x)", "0 2, 0 2, 1 2", api.ErrZero}, // by the derivative: the root may be 0
		{"let r : s = sqrt(x) + y", "0 0, 0 2, 1 2", api.ErrZero},
		{"let r : s = sqrt(0) + y", "0 0, 0 2, 1 2", api.ErrZero},
		{"let a : s = sqrt(x); let r : s = a + (1 / y)", "0 2, 0 2, 1 2", api.ErrZero},
		{"let a : s = sqrt(x); let r : s = a + sqrt(y)", "0 2, -1 2, 1 2", api.ErrDomain}, // that by intervals comes first
		{"let a : s = sqrt(x); let r : s = y + 1", "0 2, -1 2, 1 2", api.OK},
	} {
		p, node := of(t, c.lines)
		box := spans(c.box)
		for input := range 3 {
			if a, e := ranges.Slope(p, box, node, input); e != c.e || e != api.OK && show(a) != "0 0" {
				t.Errorf("%s: Slope by %d is %s, error %d, want %d", c.lines, input, show(a), e, c.e)
			}
		}
		if a, e := ranges.Mean(p, box, node); e != c.e || e != api.OK && show(a) != "0 0" {
			t.Errorf("%s: Mean %s, error %d, want %d", c.lines, show(a), e, c.e)
		}
		if a, e := ranges.Monotone(p, box, node); e != c.e || e != api.OK && show(a) != "0 0" {
			t.Errorf("%s: Monotone %s, error %d, want %d", c.lines, show(a), e, c.e)
		}
		want := api.ErrRange
		if c.e == ranges.ErrRule {
			want = ranges.ErrRule
		}
		for _, input := range []int{-1, 3, math.MaxInt, math.MinInt} {
			expect(t, c.lines+", no input", "", want)(ranges.Slope(p, box, node, input))
		}
	}
	// Without inputs there is no derivative that has an error.
	p := program(t, "format s 8 24; let r : s = sqrt(0); result r")
	expect(t, "no inputs, Mean", "0 0", api.OK)(ranges.Mean(p, nil, 1))
	expect(t, "no inputs, Monotone", "0 0", api.OK)(ranges.Monotone(p, nil, 1))
	expect(t, "no inputs, Slope", "", api.ErrRange)(ranges.Slope(p, nil, 1, 0))
}

// TestP6_4_Mean: the mean value form.
func TestP6_4_Mean(t *testing.T) {
	for _, c := range []struct{ lines, box, want string }{
		{"let r : s = x * x - x", "0 1, 0 1, 0 1", "-3/4 1/4"},
		{"let r : s = x * x", "-1 1, 0 1, 0 1", "-2 2"},
		{"let r : s = x * y", "1 3, 2 4, 0 1", "-1 13"},
		{"let r : s = x * y", "1 1, 2 4, 0 1", "2 4"},
		{"let r : s = x * y", "1 1, 2 2, 0 1", "2 2"},
		{"let r : s = x - y * z", "0 2, 0 2, 4 8", "-18 8"},
		{"let r : s = 7", "0 2, 0 2, 4 8", "7 7"},
	} {
		p, node := of(t, c.lines)
		expect(t, c.lines+" over "+c.box, c.want, api.OK)(ranges.Mean(p, spans(c.box), node))
	}
	// The value in the middle is rounded, and then the form: from 1/3 to 7/3.
	p, node := of(t, "let r : s = 1 / x")
	want := toSpans(spans("4/3 4/3"))[0].out(96).plus(toSpans(spans("-1 1"))[0]).out(96)
	expect(t, "1 / x", want.text(), api.OK)(ranges.Mean(p, spans("1/2 1, 0 2, 4 8"), node))
	p, _ = of(t, "let r : s = x")
	expect(t, "an input", out96("1/3", "2/3"), api.OK)(ranges.Mean(p, spans("1/3 2/3, 0 1, 0 1"), 0))
}

// TestP6_4_MeanLong: the middle, and the form, may have too many digits.
func TestP6_4_MeanLong(t *testing.T) {
	nines, large, small := "9"+digits(1000)[1:], digits(2000), "1/"+toText(twoTo(6643))
	for _, c := range []struct {
		lines, box string
		e          api.Errno
	}{
		{"let r : s = x * x", "-" + nines + " " + nines + ", 0 1, 0 1", api.ErrLong}, // about 16 times 10^1999
		{"let r : s = x * x", "-" + digits(1000) + " " + digits(1000) + ", 0 1, 0 1", api.OK},
		{"let r : s = x + y", "0 " + small + ", 0 1, 0 1", api.ErrLong}, // the middle
		{"let r : s = z + y", "0 " + small + ", 0 1, 0 1", api.OK},
		{"let a : s = x * {" + large + "}; let r : s = a * 20", "0 1/" + large + ", 0 1, 0 1", api.ErrLong}, // the derivative
	} {
		p, node := of(t, c.lines)
		a, e := ranges.Mean(p, spans(c.box), node)
		if e != c.e || e != api.OK && show(a) != "0 0" {
			t.Errorf("%.30s over %.20s: %.40s, error %d, want %d", c.lines, c.box, show(a), e, c.e)
		}
		if _, e := ranges.Node(p, spans(c.box), node); e != api.OK {
			t.Errorf("%.30s over %.20s: Node has the error %d", c.lines, c.box, e)
		}
	}
	p, node := of(t, "let a : s = x * {"+large+"}; let r : s = a * 20")
	box := spans("0 1/" + large + ", 0 1, 0 1")
	expect(t, "Slope", "", api.ErrLong)(ranges.Slope(p, box, node, 0))
	expect(t, "Slope by another input", "0 0", api.OK)(ranges.Slope(p, box, node, 1))
	expect(t, "Monotone", "", api.ErrLong)(ranges.Monotone(p, box, node))
}

// TestP6_4_Monotone: rising and falling inputs have one end alone.
func TestP6_4_Monotone(t *testing.T) {
	for _, c := range []struct{ lines, box, want string }{
		{"let r : s = x * x - x", "1 2, 0 1, 0 1", "0 2"},
		{"let r : s = x * x - x", "1/2 2, 0 1, 0 1", "-1/4 2"},            // rising, as the least slope is 0
		{"let r : s = x * x - x", "0 1/2, 0 1, 0 1", "-1/4 0"},            // falling, as the greatest slope is 0
		{"let r : s = x * x - x", "0 1, 0 1, 0 1", "-1 1"},                // neither
		{"let r : s = (x * x - x) * 0 + y", "0 1, 0 1, 0 1", "0 1"},       // the slope is 0: rising
		{"let r : s = x - y", "1 2, 3 5, 0 1", "-4 -1"},                   // rising in x, falling in y
		{"let r : s = x * x - x + (y - y)", "1 2, 3 5, 0 1", "0 2"},       // and y has no slope
		{"let r : s = x * x - y * z", "-1 1, 1 2, 1 2", "-5 0"},           // x is neither
		{"let r : s = x * (y - z) + y", "1 2, 0 5, 3 3", "-6 9"},          // in x neither: y is 0, and then 5
		{"let r : s = x / y", "1 2, 2 4, 0 1", "1/4 1"},                   // falling in y
		{"let r : s = y * x", "1 1, 3 3, 0 1", "3 3"},                     // a point
		{"let r : s = sqrt(x) - x / 4", "4 16, 3 3, 0 1", "0 1"},          // falling: from 1/8 - 1/4 to 1/4 - 1/4
		{"let r : s = fma(x, x, - (x + x)) / 1", "1 3, 3 3, 0 1", "-1 3"}, // rising from 1 on
	} {
		p, node := of(t, c.lines)
		expect(t, c.lines+" over "+c.box, c.want, api.OK)(ranges.Monotone(p, spans(c.box), node))
	}
	// Over the box of the upper end a range may be too long, though it is not over the
	// whole box: y is 2^-4000 alone there.
	p, node := of(t, "let r : s = x * y")
	tiny := "1/" + toText(twoTo(4000))
	box := spans(tiny + " 1, -1 " + tiny + ", 0 1")
	expect(t, "too long", "", api.ErrLong)(ranges.Monotone(p, box, node))
	expect(t, "not too long", "-1 "+tiny, api.OK)(ranges.Node(p, box, node))
	box = spans(tiny + " 1, -" + tiny + " 1, 0 1")
	expect(t, "too long for the lower end", "", api.ErrLong)(ranges.Monotone(p, box, node))
	expect(t, "not too long", "-"+tiny+" 1", api.OK)(ranges.Node(p, box, node))
}

// TestP6_12_Derivatives: differences of values are in the product of the range of the
// derivative and the difference of the inputs.
func TestP6_12_Derivatives(t *testing.T) {
	random := rand.New(rand.NewSource(612))
	checked := 0
	for range 6000 {
		p := randomProgram(t, random)
		if len(p.Inputs) == 0 {
			continue
		}
		box := randomBox(random, len(p.Inputs))
		node, input := len(p.Nodes)-1, random.Intn(len(box))
		d, e := ranges.Slope(p, box, node, input)
		if e != api.OK {
			continue
		}
		at := randomPoint(random, box)
		to := append([]api.Rat{}, at...)
		to[input] = randomPoint(random, box)[input]
		x, e1 := valueAt(p, at, node)
		y, e2 := valueAt(p, to, node)
		if e1 != api.OK || e2 != api.OK {
			t.Fatalf("%+v over %v: errors %d, %d", p, box, e1, e2)
		}
		checked++
		step := less(toRat(to[input]), toRat(at[input]))
		want := toSpans([]api.Span{d.Span()})[0].by(span{step, step})
		// The values are known up to less than the 2^-300-th part of them.
		if apart := y.plus(x.negative()); apart.lo.Cmp(want.hi) > 0 || apart.hi.Cmp(want.lo) < 0 {
			t.Fatalf("%+v from %v to %v: %s is not in %s", p, at, to, apart.text(), want.text())
		}
	}
	if checked < 800 {
		t.Errorf("only %d are checked", checked)
	}
}

// randomPoint returns a point of a box, often a corner.
func randomPoint(random *rand.Rand, box []api.Span) []api.Rat {
	var out []api.Rat
	for _, s := range box {
		lo, _ := exact.Parse(s.Lo)
		hi, _ := exact.Parse(s.Hi)
		part, _ := exact.Ratio(int64([]int{0, 0, 1, 2, 3, 4, 5, 6, 7, 7}[random.Intn(10)]), 7)
		out = append(out, lo.Add(hi.Sub(lo).Mul(part)).Text())
	}
	return out
}

// valueAt returns an enclosure of the real value of a node, of 400 bits.
func valueAt(p api.Prog, at []api.Rat, node int) (span, api.Errno) {
	m := newModel(p, node)
	m.bits = 400
	var box []span
	for _, x := range at {
		box = append(box, span{toRat(x), toRat(x)})
	}
	return m.rangeOf(box)
}
