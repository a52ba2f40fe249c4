package ranges_test

import (
	"fmt"
	"math"
	"math/rand"
	"slices"
	"testing"

	"vernier/api"
	"vernier/exact"
	"vernier/lang"
	"vernier/ranges"
)

// dump writes all parts of values; those that are equal have the same dump.
func dump(values ...any) string { return fmt.Sprintf("%+v", values) }

// spoiled returns programs of which few are valid.
func spoiled(p api.Prog, random *rand.Rand) api.Prog {
	odds := []int{0, 1, 2, 3, 5, 7, 64, -1, math.MinInt, math.MaxInt}
	odd := func() int { return odds[random.Intn(len(odds))] }
	text := func() api.Rat {
		return []api.Rat{"0", "1", "-1/2", "2/4", "x", "\xff", "1/0", "-0", ""}[random.Intn(9)]
	}
	for range random.Intn(3) {
		switch random.Intn(8) {
		case 0:
			p.Formats = append(p.Formats, api.Format{E: odd(), P: odd()})
		case 1:
			p.Mode = odd()
		case 2:
			p.Inputs = append(p.Inputs, api.Input{Format: odd(), Lo: text(), Hi: text()})
		case 3:
			p.Nodes = append(p.Nodes, api.Node{Op: odd(), A: odd(), B: odd(), C: odd(), D: odd(), Format: odd(), Value: text()})
		case 4:
			n := &p.Nodes[random.Intn(len(p.Nodes))]
			*[]*int{&n.Op, &n.A, &n.B, &n.C, &n.D, &n.Format}[random.Intn(6)] = odd()
		case 5:
			p.Head = odd()
		case 6:
			p.States = append(p.States, api.State{Init: odd(), Next: odd()})
		case 7:
			p.Result = odd()
		}
	}
	return p
}

// spoiledBox returns boxes of which few are valid.
func spoiledBox(box []api.Span, random *rand.Rand) []api.Span {
	text := func() api.Rat {
		return []api.Rat{"0", "1", "-1/2", "2/4", "x", "\xff", "1/0", "-0", ""}[random.Intn(9)]
	}
	for range random.Intn(2) {
		switch {
		case random.Intn(3) == 0 || len(box) == 0:
			box = append(box, api.Span{Lo: text(), Hi: text()})
		case random.Intn(2) == 0:
			box = box[1:]
		default:
			box[random.Intn(len(box))].Hi = text()
		}
	}
	return box
}

// TestP6_13_AnyArguments: arguments of all kinds come to an end, and are as they were;
// with an error the other results are zero.
func TestP6_13_AnyArguments(t *testing.T) {
	random := rand.New(rand.NewSource(613))
	good, bad := 0, 0
	for range 4000 {
		p := randomProgram(t, random)
		box := spoiledBox(randomBox(random, len(p.Inputs)), random)
		p = spoiled(p, random)
		node := []int{0, 1, 2, len(p.Nodes) - 1, len(p.Nodes), -1, math.MaxInt, math.MinInt}[random.Intn(8)]
		before := dump(p, box)
		_, _, wrong := lang.Check(p)
		for name, call := range calls() {
			zero, e := call(p, box, node)
			if e != api.OK && !zero || wrong != api.OK && e != wrong {
				t.Errorf("%s of node %d of %s: zero %v, error %d", name, node, before, zero, e)
			}
			if e == api.OK {
				good++
			} else {
				bad++
			}
		}
		if dump(p, box) != before {
			t.Errorf("arguments have become others: %s, %s", before, dump(p, box))
		}
	}
	if good < 2000 || bad < 5000 {
		t.Errorf("only %d have no error, and %d have one", good, bad)
	}
}

// TestP6_13_AnyPolynomials: likewise for boxes and polynomials.
func TestP6_13_AnyPolynomials(t *testing.T) {
	random := rand.New(rand.NewSource(614))
	odds := []int{0, 1, 2, 16, 17, -1, math.MaxInt, math.MinInt}
	texts := []api.Rat{"0", "1", "-1/3", "2/4", "x", ""}
	for range 4000 {
		inputs := random.Intn(4)
		box, l := spoiledBox(randomBox(random, inputs), random), randomTerms(random, inputs)
		for i := range l {
			if random.Intn(8) == 0 {
				l[i].Coef = texts[random.Intn(len(texts))]
			}
			if random.Intn(8) == 0 {
				l[i].Pows = append(l[i].Pows, odds[random.Intn(len(odds))])
			}
			if random.Intn(8) == 0 && inputs > 0 {
				l[i].Pows[random.Intn(inputs)] = odds[random.Intn(len(odds))]
			}
		}
		before := dump(box, l)
		degrees, coefs, e := ranges.Coefs(l, box)
		if e != api.OK && len(degrees)+len(coefs) > 0 || e == api.OK && len(degrees) != len(box) {
			t.Errorf("%s: degrees %v, error %d", before, degrees, e)
		}
		if a, f := ranges.Bernstein(l, box); f != e || e != api.OK && show(a) != "0 0" {
			t.Errorf("%s: %s, error %d, want %d", before, show(a), f, e)
		}
		if x, e := ranges.At(l, slices.Repeat([]exact.Num{exact.Int(2)}, inputs)); e != api.OK && x.Sign() != 0 {
			t.Errorf("%s: %s, error %d", before, x.Text(), e)
		}
		input, at := odds[random.Intn(len(odds))], texts[random.Intn(len(texts))]
		if lower, upper, e := ranges.Split(box, input, at); e != api.OK && len(lower)+len(upper) > 0 {
			t.Errorf("%s: %v, %v, error %d", before, lower, upper, e)
		}
		if i, e := ranges.Widest(box); e != api.OK && i != 0 {
			t.Errorf("%s: %d, error %d", before, i, e)
		}
		if dump(box, l) != before {
			t.Errorf("arguments have become others: %s, %s", before, dump(box, l))
		}
	}
}

// TestR4_Memory: results share no memory with arguments or with one another.
func TestR4_Memory(t *testing.T) {
	box := slices.Grow(spans("0 1, 2 3"), 2)
	before := dump(box[:cap(box)])
	lower, upper, e := ranges.Split(box, 0, "1/2")
	want := dump(upper)
	clear(lower[:cap(lower)])
	if e != api.OK || dump(upper) != want || dump(box[:cap(box)]) != before {
		t.Errorf("Split: %v and %v of %v, error %d", lower, upper, box, e)
	}
	clear(upper[:cap(upper)])
	if dump(box[:cap(box)]) != before {
		t.Errorf("Split: the box is %v", box)
	}
	p := program(t, "format s 8 24; input x : s from 0 to 1; input y : s from 0 to 1; let a : s = if x <= y + 2 then x else y; result a")
	_, slopes, _, _ := ranges.Affine(p, box, 0)
	clear(slopes[:cap(slopes)])
	_, slopes, _, _ = ranges.Affine(p, box, p.Result)
	wantSlopes := texts(slopes)
	clear(slopes[:cap(slopes)])
	if _, slopes, _, _ = ranges.Affine(p, box, p.Result); texts(slopes) != wantSlopes {
		t.Errorf("Affine: %s, want %s", texts(slopes), wantSlopes)
	}
	l := terms("1 1 0; 1 0 1")
	degrees, coefs, _ := ranges.Coefs(l, box)
	wantCoefs := dump(degrees, texts(coefs))
	clear(degrees[:cap(degrees)])
	clear(coefs[:cap(coefs)])
	degrees, coefs, _ = ranges.Coefs(l, box)
	if got := dump(degrees, texts(coefs)); got != wantCoefs || dump(box[:cap(box)]) != before {
		t.Errorf("Coefs: %s, want %s", got, wantCoefs)
	}
	point := numbers(t, "1/2 1/3")
	before = dump(point)
	if x, e := ranges.At(l, point); x.Text() != "5/6" || e != api.OK || dump(point) != before {
		t.Errorf("At: %s, error %d", x.Text(), e)
	}
}

// TestR3_Empty: empty lists are no lists.
func TestR3_Empty(t *testing.T) {
	p := program(t, "format s 8 24; let a : s = 5; result a")
	q := p
	q.Inputs, q.States = []api.Input{}, []api.State{}
	for _, x := range []api.Prog{p, q} {
		for _, box := range [][]api.Span{nil, {}} {
			for name, call := range calls() {
				want := api.OK
				if name == "Slope" {
					want = api.ErrRange
				}
				if _, e := call(x, box, 0); e != want {
					t.Errorf("%s: error %d", name, e)
				}
			}
			expectCoefs(t, "no terms", nil, box, nil, "0", api.OK)
			expectCoefs(t, "no terms", []api.PfTerm{}, box, nil, "0", api.OK)
			expectCoefs(t, "no exponents", []api.PfTerm{{Coef: "2"}, {Coef: "3", Pows: []int{}}}, box, nil, "5", api.OK)
		}
	}
	for _, point := range [][]exact.Num{nil, {}} {
		if x, e := ranges.At([]api.PfTerm{{Coef: "2"}, {Coef: "3", Pows: []int{}}}, point); x.Text() != "5" || e != api.OK {
			t.Errorf("At: %s, error %d", x.Text(), e)
		}
	}
}
