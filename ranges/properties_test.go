package ranges_test

import (
	"math/big"
	"math/rand"
	"testing"

	"vernier/api"
	"vernier/exact"
	"vernier/lang"
	"vernier/ranges"
	"vernier/reals"
	"vernier/run"
)

// TestP6_8_Soundness: the real value at each point of a box is in all enclosures that
// have no error.
func TestP6_8_Soundness(t *testing.T) {
	random := rand.New(rand.NewSource(68))
	checked := map[string]int{}
	for range 2500 {
		p := randomProgram(t, random)
		box := randomBox(random, len(p.Inputs))
		node := len(p.Nodes) - 1
		found := map[string]ranges.Interval{}
		note := func(what string, a ranges.Interval, e api.Errno) {
			if e == api.OK {
				found[what] = a
			}
		}
		a, e := ranges.Node(p, box, node)
		note("Node", a, e)
		a, e = ranges.Mean(p, box, node)
		note("Mean", a, e)
		a, e = ranges.Monotone(p, box, node)
		note("Monotone", a, e)
		a, e = ranges.Best(p, box, node)
		note("Best", a, e)
		a, _, e = ranges.Bound(p, box, node, 1+random.Intn(5))
		note("Bound", a, e)
		center, slopes, radius, formE := ranges.Affine(p, box, node)
		for range 4 {
			at := randomPoint(random, box)
			value, e := valueAt(p, at, node)
			if len(found) > 0 && e != api.OK {
				t.Fatalf("%+v at %v: error %d", p, at, e)
			}
			for what, a := range found {
				checked[what]++
				over := toSpans([]api.Span{a.Span()})[0]
				// Enclosures of OpSel may be wide; others are a point, or nearly so.
				if value.lo.Cmp(over.hi) > 0 || value.hi.Cmp(over.lo) < 0 {
					t.Fatalf("%+v over %v: %s at %v is not in %s %s", p, box, value.text(), at, what, over.text())
				}
			}
			if formE != api.OK {
				continue
			}
			checked["Affine"]++
			line := toRat(center.Text())
			for i, s := range toSpans(box) {
				if s.halfWidth().Sign() > 0 {
					u := quotient(less(toRat(at[i]), s.mid()), s.halfWidth())
					line = sum(line, product(toRat(slopes[i].Text()), u))
				}
			}
			apart := value.plus(span{minus(line), minus(line)})
			if r := toRat(radius.Text()); apart.lo.Cmp(r) > 0 || apart.hi.Cmp(minus(r)) < 0 {
				t.Fatalf("%+v over %v: %s at %v differs from the line by more than %s", p, box, value.text(), at, radius.Text())
			}
		}
	}
	for _, what := range []string{"Node", "Affine", "Mean", "Monotone", "Best", "Bound"} {
		if checked[what] < 1500 {
			t.Errorf("%s is checked only %d times", what, checked[what])
		}
	}
}

// TestP6_8_Runs: the value of a real run is in the best range, and the run has no fault,
// where there is one.
func TestP6_8_Runs(t *testing.T) {
	random := rand.New(rand.NewSource(681))
	checked := 0
	for range 1500 {
		p := randomProgram(t, random)
		box := make([]api.Span, len(p.Inputs))
		in := make([]api.Rat, len(p.Inputs))
		for i := range p.Inputs {
			box[i] = api.Span{Lo: p.Inputs[i].Lo, Hi: p.Inputs[i].Hi}
			in[i] = []api.Rat{"0", "1", "1/2", "3/4", "1/1024"}[random.Intn(5)]
		}
		p.Result = p.Head - 1
		a, e := ranges.Best(p, box, p.Result)
		if e != api.OK {
			continue
		}
		l, at, fault, e := run.Real(p, in, 0)
		if e != api.OK {
			continue
		}
		if fault != (api.RnFault{}) {
			t.Fatalf("%+v at %v: fault %v", p, in, fault)
		}
		lo, hi, e := reals.Enclose(l, at, 200)
		if e != api.OK || lo.Cmp(a.Hi()) > 0 || hi.Cmp(a.Lo()) < 0 {
			t.Fatalf("%+v at %v: from %s to %s, error %d, not in %s", p, in, lo.Text(), hi.Text(), e, show(a))
		}
		checked++
	}
	if checked < 700 {
		t.Errorf("only %d are checked", checked)
	}
}

// boxWithin returns a box within another one.
func boxWithin(random *rand.Rand, box []api.Span) []api.Span {
	x, y := randomPoint(random, box), randomPoint(random, box)
	var out []api.Span
	for i := range box {
		lo, hi := x[i], y[i]
		if toRat(lo).Cmp(toRat(hi)) > 0 {
			lo, hi = hi, lo
		}
		out = append(out, api.Span{Lo: lo, Hi: hi})
	}
	return out
}

// TestP6_9_Narrower: ranges over boxes within a box are within; the best range is within
// the range, and bounds with more splits are within those with fewer.
func TestP6_9_Narrower(t *testing.T) {
	random := rand.New(rand.NewSource(69))
	contains := func(a, b ranges.Interval) bool { return a.Has(b.Lo()) && a.Has(b.Hi()) }
	narrower, better, bounds := 0, 0, 0
	for range 2500 {
		p := randomProgram(t, random)
		box := randomBox(random, len(p.Inputs))
		node := len(p.Nodes) - 1
		whole, e := ranges.Node(p, box, node)
		if e == api.OK {
			part, e := ranges.Node(p, boxWithin(random, box), node)
			if e != api.OK || !contains(whole, part) {
				t.Fatalf("%+v over %v: %s, error %d, not within %s", p, box, show(part), e, show(whole))
			}
			if best, e := ranges.Best(p, box, node); e != api.OK || !contains(whole, best) {
				t.Fatalf("%+v over %v: %s, error %d, not within %s", p, box, show(best), e, show(whole))
			} else if !contains(best, whole) {
				better++
			}
			narrower++
		}
		before, e := ranges.Best(p, box, node)
		had := e == api.OK
		for splits := range 6 {
			now, _, e := ranges.Bound(p, box, node, splits)
			if e == api.OK && had && !contains(before, now) {
				t.Fatalf("%+v over %v, %d splits: %s, not within %s", p, box, splits, show(now), show(before))
			}
			if e == api.OK && had && !contains(now, before) {
				bounds++
			}
			if e == api.OK {
				before, had = now, true
			}
		}
	}
	if narrower < 1000 || better < 200 || bounds < 200 {
		t.Errorf("only %d narrower boxes, %d better ranges, %d better bounds", narrower, better, bounds)
	}
}

// TestP6_8_Fixed: values of a program that is known well, with splits to the limit.
func TestP6_8_Fixed(t *testing.T) {
	// x^3 - 3 x + 1 has its least value -1 at 1 and its greatest one 3 at -1 and at 2.
	p := program(t, "format s 8 24; input x : s from -1 to 2; let a : s = fma(x * x, x, 1) - 3 * x; result a")
	if _, _, e := lang.Check(p); e != api.OK {
		t.Fatalf("error %d", e)
	}
	box := spans("-1 2")
	low, high := exact.Int(-1), exact.Int(3)
	for splits := range 51 {
		a, pieces, e := ranges.Bound(p, box, p.Result, splits)
		if e != api.OK || pieces != splits+1 || !a.Has(low) || !a.Has(high) {
			t.Fatalf("%d splits: %s, %d pieces, error %d", splits, show(a), pieces, e)
		}
		if wide := less(toRat(a.Span().Hi), toRat(a.Span().Lo)); splits == 50 && wide.Cmp(big.NewRat(401, 100)) > 0 {
			t.Errorf("%d splits: %s", splits, show(a))
		}
	}
}
