package ranges_test

import (
	"math/big"
	"math/rand"
	"testing"

	"vernier/api"
	"vernier/exact"
	"vernier/lang"
	"vernier/ranges"
)

// TestP6_3_Forms: the form of each operation, in numbers that need no rounding.
func TestP6_3_Forms(t *testing.T) {
	for _, c := range []struct{ lines, box, want string }{
		{"let r : s = - x", "1 2, 0 1, 0 1", "-3/2 -1/2 0 0 0"},
		{"let r : s = s(x)", "1 2, 0 1, 0 1", "3/2 1/2 0 0 0"},
		{"let r : s = x + y", "1 2, -3 5, 0 1", "5/2 1/2 4 0 0"},
		{"let r : s = x - y", "1 2, -3 5, 0 1", "1/2 1/2 -4 0 0"},
		{"let r : s = x - x", "1 2, -3 5, 0 1", "0 0 0 0 0"},
		{"let r : s = x * x + (y - x * x)", "1 2, -3 5, 0 1", "1 0 4 0 1/2"},
		{"let r : s = x * x", "1 2, 0 1, 0 1", "9/4 3/2 0 0 1/4"},
		{"let r : s = x * y", "1 2, -3 5, 0 1", "3/2 1/2 6 0 2"},
		{"let r : s = (x * x) * (y * y)", "0 2, 1 3, 0 1", "4 8 4 0 20"},
		{"let r : s = - (x * x) * 3", "0 2, 1 3, 0 1", "-3 -6 0 0 3"},
		{"let r : s = fma(x, y, z)", "1 2, -3 5, 10 20", "33/2 1/2 6 5 2"},
		{"let r : s = 5", "1 2, 0 1, 0 1", "5 0 0 0 0"},
		// 1 / x from 1 to 2: the line -x/4, and 1 to 5/4 more.
		{"let r : s = 1 / x", "1 2, 0 1, 0 1", "3/4 -1/8 0 0 1/8"},
		{"let r : s = -1 / x", "-2 -1, 0 1, 0 1", "3/4 1/8 0 0 1/8"},
		{"let r : s = 1 / x", "-2 -1, 0 1, 0 1", "-3/4 -1/8 0 0 1/8"},
		{"let r : s = y / x", "1 2, 2 6, 0 1", "3 -1/2 3/2 0 1"},
		{"let r : s = 1 / x", "4 4, 0 1, 0 1", "1/4 0 0 0 0"},
		// The root of x from 1 to 4: the line x/4, and 3/4 to 1 more.
		{"let r : s = sqrt(x)", "1 4, 0 1, 0 1", "3/2 3/8 0 0 1/8"},
		{"let r : s = sqrt(x)", "0 4, 0 1, 0 1", "1 1/2 0 0 1/2"},
		{"let r : s = sqrt(x)", "0 0, 0 1, 0 1", "0 0 0 0 0"},
		{"let r : s = sqrt(x)", "9 9, 0 1, 0 1", "3 0 0 0 0"},
		{"let r : s = abs(x)", "0 2, 0 1, 0 1", "1 1 0 0 0"},
		{"let r : s = abs(x)", "-2 0, 0 1, 0 1", "1 -1 0 0 0"},
		{"let r : s = abs(x)", "-1 3, 0 1, 0 1", "5/4 1 0 0 3/4"},
		{"let r : s = abs(x)", "-1 1, 0 1, 0 1", "1/2 0 0 0 1/2"},
		{"let r : s = abs(x)", "0 0, 0 1, 0 1", "0 0 0 0 0"},
		{"let r : s = min(x, y)", "0 1, 2 3, 0 1", "1/2 1/2 0 0 0"},
		{"let r : s = max(x, y)", "0 1, 2 3, 0 1", "5/2 0 1/2 0 0"},
		{"let r : s = min(x, y)", "-1 1, -1 1, 0 1", "-1/2 1/2 1/2 0 1/2"},
		{"let r : s = max(x, y)", "-1 1, -1 1, 0 1", "1/2 1/2 1/2 0 1/2"},
		{"let r : s = if x <= y then z else 7", "0 1, 2 3, 10 20", "15 0 0 5 0"},
		{"let r : s = if x <= y then z else 7", "0 2, 2 3, 10 20", "15 0 0 5 0"},
		{"let r : s = if x <= y then z else 7", "4 5, 2 3, 10 20", "7 0 0 0 0"},
		{"let r : s = if x <= y then z else 7", "3 5, 2 3, 10 20", "11 0 0 5/2 13/2"},
		{"let r : s = if x <= y then z * z else x * x", "0 2, 0 2, 0 4", "5/2 1 0 4 21/2"},
		{"let r : s = if x <= y then x * x else z * z", "0 2, 0 2, 0 4", "5/2 1 0 4 21/2"},
		{"let r : s = if x <= x + 0 then z else 7", "0 2, 0 2, 0 4", "2 0 0 2 0"},
	} {
		p, node := of(t, c.lines)
		expectForm(t, c.lines+" over "+c.box, c.want, api.OK)(ranges.Affine(p, spans(c.box), node))
	}
}

// TestP6_3_Tidy: a form is tidied after each operation; what is lost of its center and
// its slopes is in the radius. Inputs and constants are not tidied.
func TestP6_3_Tidy(t *testing.T) {
	p, node := of(t, "let r : s = s(x)")
	box := spans("1/3 2/5, 0 0, 0 0")
	expectForm(t, "an input", "11/30 1/30 0 0 0", api.OK)(ranges.Affine(p, box, 0))
	center, slope := downTo(rat(11, 30), 96), downTo(rat(1, 30), 96)
	lost := upTo(sum(less(rat(11, 30), center), less(rat(1, 30), slope)), 96)
	want := formModel{center, []*big.Rat{slope, new(big.Rat), new(big.Rat)}, lost}
	expectForm(t, "a cast", want.text(), api.OK)(ranges.Affine(p, box, node))
	p, node = of(t, "let r : s = {-1/3}")
	expectForm(t, "a constant", "-1/3 0 0 0 0", api.OK)(ranges.Affine(p, box, node))
	p, node = of(t, "let r : s = - {1/3}")
	center = downTo(rat(-1, 3), 96)
	want = constantForm(center, 3)
	want.radius = upTo(less(rat(-1, 3), center), 96)
	expectForm(t, "a constant below 0", want.text(), api.OK)(ranges.Affine(p, box, node))
	// The product of OpFma is tidied before the sum, the inverse before the product.
	p, node = of(t, "let r : s = fma({1/3}, {1/7}, {-1/21})")
	first := constantForm(rat(1, 21), 3).tidied()
	want = first.plus(constantForm(rat(-1, 21), 3), 1).tidied()
	expectForm(t, "fma", want.text(), api.OK)(ranges.Affine(p, box, node))
	if want.center.Sign() == 0 {
		t.Errorf("the product is not rounded")
	}
	p, node = of(t, "let r : s = 3 / {3/7}")
	want = constantForm(rat(3, 1), 3).by(constantForm(rat(7, 3), 3).tidied()).tidied()
	expectForm(t, "a quotient", want.text(), api.OK)(ranges.Affine(p, box, node))
	if want.center.Cmp(rat(7, 1)) == 0 {
		t.Errorf("the inverse is not rounded")
	}
}

// TestP6_3_FormErrors: the first error of a form, of the nodes on which it depends.
func TestP6_3_FormErrors(t *testing.T) {
	large, small := digits(2000), "1/"+toText(twoTo(6643)) // both have 2000 digits
	for _, c := range []struct {
		lines, box string
		e          api.Errno
	}{
		{"let r : s = 1 / (x - x)", "0 1, 0 1, 0 1", api.ErrZero},
		{"let r : s = 1 / (x * x - x)", "2 3, 0 1, 0 1", api.OK},
		{"let r : s = 1 / (x * x - x + {1/2})", "0 1, 0 1, 0 1", api.ErrZero}, // from 0 to 1/2 by the form
		{"let r : s = 1 / (x * x - x + {1/2} + {1/1000000})", "0 1, 0 1, 0 1", api.OK},
		{"let r : s = sqrt(x * x - x + {1/2})", "0 1, 0 1, 0 1", api.OK},
		{"let r : s = sqrt(x * x - x + {1/2} - {1/1000000})", "0 1, 0 1, 0 1", api.ErrDomain},
		{"let r : s = sqrt(x - x)", "0 1, 0 1, 0 1", api.OK},
		{"let r : s = x * 8", "0 " + large + ", 0 1, 0 1", api.OK},
		{"let r : s = 10 * {" + large + "}", "0 1, 0 1, 0 1", api.OK},
		{"let r : s = 40 * {" + large + "}", "0 1, 0 1, 0 1", api.ErrLong}, // the center
		{"let r : s = x * 40", "0 " + large + ", 0 1, 0 1", api.ErrLong},
		{"let r : s = x * 21", "-" + large + " " + large + ", 0 1, 0 1", api.ErrLong},
		{"let r : s = y + 1", "-" + large + " " + large + ", 0 1, 0 1", api.OK},
		{"let r : s = y * y", "0 1, 0 " + small + ", 0 1", api.ErrLong},  // the middle has 2001 digits
		{"let r : s = y + 1", "0 1, -" + small + " 0, 0 1", api.ErrLong}, // of the slope, too
		{"let r : s = y + 1", "0 1, -" + small + " " + small + ", 0 1", api.OK},
		{"let r : s = y + 1", "0 1, " + small + " " + small + ", 0 1", api.OK},
		{"let r : s = x + 1", "0 1, 0 " + small + ", 0 1", api.OK},
		{"let r : s = y * y", "0 1, -" + small + " " + small + ", 0 1", api.ErrLong}, // the radius
	} {
		p, node := of(t, c.lines)
		center, slopes, radius, e := ranges.Affine(p, spans(c.box), node)
		if e != c.e || e != api.OK && (center.Sign() != 0 || len(slopes) > 0 || radius.Sign() != 0) || e == api.OK && len(slopes) != 3 {
			t.Errorf("%s over %.20s: %d slopes, error %d, want %d", c.lines, c.box, len(slopes), e, c.e)
		}
	}
	p, _ := of(t, "let r : s = x")
	if _, _, _, e := ranges.Affine(p, spans("0 1, 0 "+small+", 0 1"), 1); e != api.ErrLong {
		t.Errorf("an input whose middle is too long: error %d", e)
	}
}

// TestP6_10_Lines: nodes that are lines in the inputs have the radius 0, and the ends
// of the interval are values.
func TestP6_10_Lines(t *testing.T) {
	random := rand.New(rand.NewSource(610))
	for range 1500 {
		m := &maker{Rand: random, prefers: []int{api.OpNeg, api.OpCast, api.OpAdd, api.OpSub}}
		m.p.Formats = []api.Format{{E: 11, P: 53}}
		var box []api.Span
		integer := func() int64 { return random.Int63n(1<<21-1) - 1<<20 + 1 }
		for i := range random.Intn(7) {
			m.p.Inputs = append(m.p.Inputs, api.Input{Lo: "0", Hi: "1"})
			m.p.Nodes = append(m.p.Nodes, api.Node{Op: api.OpInput, A: i})
			x, y := exact.Int(integer()), exact.Int(integer())
			box = append(box, api.Span{Lo: x.Min(y).Text(), Hi: x.Max(y).Text()})
		}
		m.p.Nodes = append(m.p.Nodes, api.Node{Op: api.OpConst, Value: exact.Int(integer()).Text()})
		for len(m.p.Nodes) < 64 {
			n := api.Node{Op: m.prefers[random.Intn(4)]}
			for i := range operandsOf(n) {
				*[...]*int{&n.A, &n.B}[i] = max(random.Intn(len(m.p.Nodes)), random.Intn(len(m.p.Nodes)))
			}
			m.p.Nodes = append(m.p.Nodes, n)
		}
		m.p.Head, m.p.Tail = 64, 64
		if _, _, e := lang.Check(m.p); e != api.OK {
			t.Fatalf("error %d", e)
		}
		center, slopes, radius, e := ranges.Affine(m.p, box, 63)
		if radius.Sign() != 0 || e != api.OK {
			t.Fatalf("%+v over %v: radius %s, error %d", m.p, box, radius.Text(), e)
		}
		reach := exact.Num{}
		var low, high []api.Span
		for i, s := range slopes {
			reach = reach.Add(s.Abs())
			ends := [2]api.Rat{box[i].Lo, box[i].Hi}
			if s.Sign() < 0 {
				ends = [2]api.Rat{box[i].Hi, box[i].Lo}
			}
			low = append(low, api.Span{Lo: ends[0], Hi: ends[0]})
			high = append(high, api.Span{Lo: ends[1], Hi: ends[1]})
		}
		x, _ := ranges.Node(m.p, low, 63) // of a point: the value, as none is rounded
		y, _ := ranges.Node(m.p, high, 63)
		if x.Lo().Cmp(center.Sub(reach)) != 0 || y.Hi().Cmp(center.Add(reach)) != 0 || x.Lo().Cmp(x.Hi()) != 0 || y.Lo().Cmp(y.Hi()) != 0 {
			t.Fatalf("%+v over %v: %s and %s, form %s, %s", m.p, box, show(x), show(y), center.Text(), texts(slopes))
		}
	}
}
