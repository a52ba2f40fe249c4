package proofs_test

import (
	"fmt"
	"math/rand"
	"slices"
	"testing"

	"vernier/api"
	"vernier/exact"
	"vernier/lang"
	"vernier/proofs"
	"vernier/ranges"
	"vernier/reals"
	"vernier/run"
)

// randomProof returns a random program with a proof, which is accepted or not. Most of the
// programs have formats with few values, so that rounding errors are great.
func randomProof(t testing.TB, random *rand.Rand) (api.Prog, api.Proof) {
	t.Helper()
	p := randomProgram(t, random)
	if random.Intn(4) > 0 {
		for i := range p.Formats {
			p.Formats[i] = someFormats[2+random.Intn(3)]
		}
		if _, _, e := lang.Check(p); e != api.OK {
			t.Fatalf("%+v: error %d", p, e)
		}
	}
	q, _ := newProver(random, p).prove()
	for range random.Intn(3) {
		if random.Intn(2) == 0 {
			q = spoil(random, p, q)
		}
	}
	return p, q
}

// TestP7_8_Soundness: what accepted proofs claim holds in all runs; so do the claims of all
// nodes (P7.9).
func TestP7_8_Soundness(t *testing.T) {
	random := rand.New(rand.NewSource(78))
	seen := map[string]int{}
	for range 6000 {
		p, q := randomProof(t, random)
		if _, _, e := proofs.Check(p, q); e != api.OK {
			seen["not accepted"]++
			continue
		}
		seen["accepted"]++
		for range 4 {
			in, steps := randomInputs(t, random, p), random.Intn(6)
			expectSound(t, p, q, in, steps, seen)
			expectEachNode(t, p, q, in, steps, seen)
		}
		if t.Failed() {
			t.Fatalf("%+v\n%+v", p, q)
		}
	}
	for _, what := range []string{"accepted", "real", "real that is no number", "error", "greatest error", "values", "in a loop", "in a later leaf"} {
		if seen[what] < 100 {
			t.Errorf("only %d times: %s", seen[what], what)
		}
	}
}

func expectSound(t *testing.T, p api.Prog, q api.Proof, in []api.Rat, steps int, seen map[string]int) {
	t.Helper()
	if _, f, e := run.Float(p, in, steps); f.Kind != 0 || e != api.OK {
		t.Errorf("%v, %d steps: fault %v, error %d", in, steps, f, e)
	}
	l, at, f, e := run.Real(p, in, steps)
	if e == api.ErrLong {
		return
	}
	if f.Kind != 0 || e != api.OK {
		t.Errorf("%v, %d steps: real fault %v, error %d", in, steps, f, e)
		return
	}
	seen["real"]++
	if l[at].Kind != api.RlNum {
		seen["real that is no number"]++
	}
	if cmpReal(t, l, at, q.Lo) < 0 || cmpReal(t, l, at, q.Hi) > 0 {
		t.Errorf("%v, %d steps: the real value is not from %s to %s", in, steps, q.Lo, q.Hi)
	}
	bound := number(t, q.Err)
	is, f, e := run.Within(p, in, steps, bound)
	if !is || f.Kind != 0 || e != api.OK {
		t.Errorf("%v, %d steps: the error is above %s (fault %v, error %d)", in, steps, q.Err, f, e)
	}
	seen["error"]++
	if is, _, _ := run.Within(p, in, steps, times9of10(bound)); bound.Sign() > 0 && !is {
		seen["greatest error"]++
	}
}

func times9of10(x exact.Num) exact.Num {
	by, _ := exact.Ratio(9, 10)
	return x.Mul(by)
}

// cmpReal compares a node of a list with a number.
func cmpReal(t *testing.T, l []api.RlNode, at int, x api.Rat) int {
	t.Helper()
	l, other, e := reals.Put(l, api.RlNode{Kind: api.RlNum, Val: x})
	if e != api.OK {
		t.Fatalf("Put: error %d", e)
	}
	order, e := reals.Cmp(l, at, other)
	if e != api.OK {
		t.Fatalf("Cmp: error %d", e)
	}
	return order
}

// expectEachNode expects values of a floating-point run where the leaf claims them to be.
func expectEachNode(t *testing.T, p api.Prog, q api.Proof, in []api.Rat, steps int, seen map[string]int) {
	t.Helper()
	item, e := proofs.Find(p, q, in)
	if e != api.OK {
		t.Fatalf("Find: error %d", e)
	}
	if item > 1 {
		seen["in a later leaf"]++
	}
	l, f, e := run.Values(p, in, steps)
	if f.Kind != 0 || e != api.OK {
		t.Fatalf("Values: fault %v, error %d", f, e)
	}
	for _, v := range l {
		c := q.Items[item].Claims[v.Node]
		s, e := readSaid(c.Lo, c.Hi, c.Err)
		if e != api.OK || !s.floats().has(toRat(v.Value)) {
			t.Errorf("%v: %v is not in %+v", in, v, c)
		}
		seen["values"]++
		if v.Step > 1 {
			seen["in a loop"]++
		}
	}
}

// TestP7_8_Modes: a difference that cancels, in all modes, for all inputs: none is above the
// bound of the proof, and one is above a quarter of it.
func TestP7_8_Modes(t *testing.T) {
	for mode, err := range map[string]api.Rat{"even": "3/8", "away": "3/8", "zero": "3/4", "up": "3/4", "down": "3/4"} {
		p := program(t, "mode "+mode+"; format f 3 3; input x : f from 0 to 1; let a : f = x + 1; let b : f = a - 1; result b")
		first := over(toRat(err), rat(3, 2))
		l := leaf(t, fmt.Sprintf("step 0 1 0; step 1 1 0; step 1 2 %s; step 1 1 0; step 0 1 %s", toText(first), err), "")
		q := proof("0 1 "+string(err), l)
		expectCheck(t, mode, 0, 0, api.OK)(proofs.Check(p, q))
		most := exact.Num{}
		for k := range int64(17) {
			x, _ := exact.Ratio(k, 16)
			if in := []api.Rat{x.Text()}; slices.Contains([]int64{0, 1, 2, 3, 4, 5, 6, 7, 8, 10, 12, 14, 16}, k) {
				lo, _, f, e := run.Error(p, in, 0, 30)
				if f.Kind != 0 || e != api.OK {
					t.Fatalf("Error of %v: fault %v, error %d", in, f, e)
				}
				most = most.Max(lo)
				expectSound(t, p, q, in, 0, map[string]int{})
			}
		}
		if most.Mul(exact.Int(4)).Cmp(number(t, err)) < 0 {
			t.Errorf("mode %s: the greatest error is %s, far below %s", mode, most.Text(), err)
		}
	}
}

// TestP7_10_Wider: a proof of more is a proof of less.
func TestP7_10_Wider(t *testing.T) {
	random := rand.New(rand.NewSource(710))
	accepted := 0
	for range 600 {
		p, q := randomProof(t, random)
		if _, _, e := proofs.Check(p, q); e != api.OK {
			continue
		}
		accepted++
		q.Lo, q.Hi, q.Err = toText(less(toRat(q.Lo), rat(random.Int63n(3), 7))), toText(plus(toRat(q.Hi), rat(random.Int63n(3), 7))), toText(plus(toRat(q.Err), rat(random.Int63n(3), 7)))
		expectCheck(t, "wider", 0, 0, api.OK)(proofs.Check(p, q))
	}
	if accepted < 200 {
		t.Errorf("only %d are accepted", accepted)
	}
}

// TestP7_11_Joined: the join of proofs for both halves is a proof for the whole.
func TestP7_11_Joined(t *testing.T) {
	random := rand.New(rand.NewSource(711))
	joined := 0
	for range 1500 {
		p := randomProgram(t, random)
		if len(p.Inputs) == 0 {
			continue
		}
		input := random.Intn(len(p.Inputs))
		in := p.Inputs[input]
		at := randomInputs(t, random, p)[input]
		if at == in.Lo || at == in.Hi {
			continue
		}
		part := func(lo, hi api.Rat) (api.Prog, api.Proof, bool) {
			h := p
			h.Inputs = slices.Clone(p.Inputs)
			h.Inputs[input].Lo, h.Inputs[input].Hi = lo, hi
			q, _ := newProver(random, h).prove()
			_, _, e := proofs.Check(h, q)
			return h, q, e == api.OK
		}
		lower, a, isA := part(in.Lo, at)
		upper, b, isB := part(at, in.Hi)
		if !isA || !isB {
			continue
		}
		joined++
		q, e := proofs.Join(p, input, at, a, b)
		if e != api.OK {
			t.Fatalf("Join: error %d", e)
		}
		expectCheck(t, "joined", 0, 0, api.OK)(proofs.Check(p, q))
		expectLeaves(t, lower, a, p, q, 1)
		expectLeaves(t, upper, b, p, q, 1+len(a.Items))
		if t.Failed() {
			t.Fatalf("%+v\n%+v", p, q)
		}
	}
	if joined < 150 {
		t.Errorf("only %d joins", joined)
	}
}

// expectLeaves expects the leaves of a half in the whole, some items later.
func expectLeaves(t *testing.T, half api.Prog, part api.Proof, whole api.Prog, q api.Proof, later int) {
	t.Helper()
	items, boxes, e := proofs.Boxes(half, part)
	if e != api.OK {
		t.Fatalf("Boxes: error %d", e)
	}
	all, allBoxes, e := proofs.Boxes(whole, q)
	if e != api.OK {
		t.Fatalf("Boxes: error %d", e)
	}
	for i, item := range items {
		at := slices.Index(all, item+later)
		if at < 0 || !slices.Equal(allBoxes[at], boxes[i]) {
			t.Errorf("the leaf %d is not in %v", item, all)
		}
	}
}

// TestP7_12_Squares: a sum of squares is not below 0 in the box, and the polynomial of a node
// is its value.
func TestP7_12_Squares(t *testing.T) {
	random := rand.New(rand.NewSource(712))
	p := program(t, "format s 8 24; input x : s from 0 to 1; input y : s from 0 to 1; let r : s = x; result r")
	box := spans("-1/2 2, 1/3 3")
	above := 0
	for range 1500 {
		var l []api.PfSquare
		for range 1 + random.Intn(3) {
			s := api.PfSquare{Coef: toText(rat(random.Int63n(5), 2)), Input: random.Intn(3) - 1}
			for range 1 + random.Intn(4) {
				s.Poly = append(s.Poly, api.PfTerm{Coef: toText(rat(random.Int63n(9)-4, 3)), Pows: []int{random.Intn(4), random.Intn(3)}})
			}
			l = append(l, s)
		}
		f, e := proofs.Squares(p, box, l)
		if e != api.OK {
			continue
		}
		for range 5 {
			x, err := ranges.At(f, pointIn(t, random, box))
			if x.Sign() < 0 || err != api.OK {
				t.Fatalf("%v: %s, error %d", l, x.Text(), err)
			}
			above += x.Sign()
		}
	}
	if above < 2000 {
		t.Errorf("only %d values above 0", above)
	}
	values := 0
	for range 2500 {
		p := randomProgram(t, random)
		f, e := proofs.Poly(p, p.Result)
		if e != api.OK || len(p.States) > 0 {
			continue
		}
		in := randomInputs(t, random, p)
		l, at, fault, e := run.Real(p, in, 0)
		if e == api.ErrLong {
			continue
		}
		var x []exact.Num
		for _, text := range in {
			x = append(x, number(t, text))
		}
		y, e := ranges.At(f, x)
		if fault.Kind != 0 || e != api.OK || l[at].Val != y.Text() {
			t.Fatalf("%+v of %v: %s, want %v", p, in, y.Text(), l[at])
		}
		values++
	}
	if values < 300 {
		t.Errorf("only %d values", values)
	}
}

// pointIn returns a point of a box.
func pointIn(t *testing.T, random *rand.Rand, box []api.Span) []exact.Num {
	t.Helper()
	var out []exact.Num
	for _, s := range box {
		lo, hi := number(t, s.Lo), number(t, s.Hi)
		part, _ := exact.Ratio(int64(random.Intn(17)), 16)
		out = append(out, lo.Add(hi.Sub(lo).Mul(part)))
	}
	return out
}
