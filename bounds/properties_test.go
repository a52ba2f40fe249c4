package bounds_test

import (
	"fmt"
	"math/rand"
	"testing"

	"vernier/api"
	"vernier/bounds"
	"vernier/exact"
	"vernier/lang"
	"vernier/proofs"
	"vernier/reals"
	"vernier/run"
)

// coarsen gives most programs formats with few values, so that rounding errors are great.
func coarsen(t testing.TB, random *rand.Rand, p api.Prog) api.Prog {
	t.Helper()
	if random.Intn(4) == 0 {
		return p
	}
	for i := range p.Formats {
		p.Formats[i] = someFormats[2+random.Intn(3)]
	}
	if _, _, e := lang.Check(p); e != api.OK {
		t.Fatalf("%+v: error %d", p, e)
	}
	return p
}

// TestP8_7_Accepted: what is derived and what is pruned is accepted, and has no more items.
func TestP8_7_Accepted(t *testing.T) {
	random := rand.New(rand.NewSource(87))
	derived, less := 0, 0
	for range 2500 {
		p, plan := coarsen(t, random, randomProgram(t, random)), randomPlan(random)
		q, e := bounds.Derive(p, plan)
		if e != api.OK {
			continue
		}
		derived++
		expectAccepted(t, "derived", p, q)
		pruned, e := bounds.Prune(p, q, randomPlan(random))
		if e != api.OK || len(pruned.Items) > len(q.Items) {
			t.Errorf("Prune: %d items of %d, error %d", len(pruned.Items), len(q.Items), e)
		}
		expectAccepted(t, "pruned", p, pruned)
		if len(pruned.Items) < len(q.Items) {
			less++
		}
		if t.Failed() {
			t.Fatalf("%+v\n%+v", p, plan)
		}
	}
	if derived < 1000 || less < 300 {
		t.Errorf("only %d are derived, and %d become less", derived, less)
	}
}

// TestP8_8_EndToEnd: what derived proofs claim holds in all runs.
func TestP8_8_EndToEnd(t *testing.T) {
	random := rand.New(rand.NewSource(88))
	seen := map[string]int{}
	for range 3000 {
		p, plan := coarsen(t, random, randomProgram(t, random)), randomPlan(random)
		q, e := bounds.Derive(p, plan)
		if e != api.OK {
			continue
		}
		seen["derived"]++
		for range 4 {
			expectSound(t, p, q, randomInputs(t, random, p), random.Intn(6), seen)
		}
		if t.Failed() {
			t.Fatalf("%+v\n%+v\n%+v", p, plan, q)
		}
	}
	for _, what := range []string{"derived", "real", "real that is no number", "in a loop", "error", "great error"} {
		if seen[what] < 100 {
			t.Errorf("only %d times: %s", seen[what], what)
		}
	}
}

func expectSound(t *testing.T, p api.Prog, q api.Proof, in []api.Rat, steps int, seen map[string]int) {
	t.Helper()
	if _, f, e := run.Float(p, in, steps); f.Kind != 0 || e != api.OK {
		t.Errorf("%v, %d steps: fault %v, error %d", in, steps, f, e)
	}
	l, at, f, e := run.Real(p, in, steps)
	if e == api.ErrLong {
		return
	}
	if f.Kind != 0 || e != api.OK {
		t.Errorf("%v, %d steps: real fault %v, error %d", in, steps, f, e)
		return
	}
	seen["real"]++
	if l[at].Kind != api.RlNum {
		seen["real that is no number"]++
	}
	if _, states, _ := lang.Needs(p); steps > 1 && len(states) > 0 && states[0] {
		seen["in a loop"]++
	}
	if cmpReal(t, l, at, q.Lo) < 0 || cmpReal(t, l, at, q.Hi) > 0 {
		t.Errorf("%v, %d steps: the real value is not from %s to %s", in, steps, q.Lo, q.Hi)
	}
	bound := number(t, q.Err)
	is, f, e := run.Within(p, in, steps, bound)
	if !is || f.Kind != 0 || e != api.OK {
		t.Errorf("%v, %d steps: the error is above %s (fault %v, error %d)", in, steps, q.Err, f, e)
	}
	seen["error"]++
	part, _ := exact.Ratio(1, 2)
	if is, _, _ := run.Within(p, in, steps, bound.Mul(part)); bound.Sign() > 0 && !is {
		seen["great error"]++
	}
}

// cmpReal compares a node of a list with a number.
func cmpReal(t *testing.T, l []api.RlNode, at int, x api.Rat) int {
	t.Helper()
	l, other, e := reals.Put(l, api.RlNode{Kind: api.RlNum, Val: x})
	if e != api.OK {
		t.Fatalf("Put: error %d", e)
	}
	order, e := reals.Cmp(l, at, other)
	if e != api.OK {
		t.Fatalf("Cmp: error %d", e)
	}
	return order
}

// TestP8_10_Invariants: the claims of Init and Next are within that of the state; TestP8_11:
// the claim of each node follows from those of its operands, and none is better.
func TestP8_10_Invariants(t *testing.T) {
	random := rand.New(rand.NewSource(810))
	seen := map[string]int{}
	for range 2000 {
		p, plan := randomProgram(t, random), randomPlan(random)
		box := randomBox(random, p)
		l, e := bounds.Leaf(p, box, plan)
		if e != api.OK {
			continue
		}
		nodes, states, _ := lang.Needs(p)
		for s, needed := range states {
			if !needed {
				expectClaim(t, "a state that is not needed", "-", api.OK)(l.States[s], api.OK)
				continue
			}
			seen["states"]++
			state := readSaid(l.States[s])
			for _, at := range []int{p.States[s].Init, p.States[s].Next} {
				if !readSaid(l.Claims[at]).isWithin(state) {
					t.Errorf("the state %d: %s is not within %s", s, claimsText(l.Claims[at]), claimsText(l.States[s]))
				}
			}
		}
		for i, needed := range nodes {
			if !needed {
				expectClaim(t, "a node that is not needed", "-", api.OK)(l.Claims[i], api.OK)
				continue
			}
			seen["nodes"]++
			expectTight(t, p, box, l, i, seen)
			expectClaim(t, fmt.Sprint("the node ", i), claimsText(l.Claims[i]), api.OK)(bounds.Claim(p, box, l, i, plan))
		}
		if t.Failed() {
			t.Fatalf("%+v\n%+v\n%s", p, plan, leafText(l))
		}
	}
	for _, what := range []string{"states", "nodes", "another rule"} {
		if seen[what] < 300 {
			t.Errorf("only %d times: %s", seen[what], what)
		}
	}
}

// expectTight expects that a claim follows, and that no other rule has a lesser error, but by
// what it is rounded up.
func expectTight(t *testing.T, p api.Prog, box []api.Span, l api.PfItem, node int, seen map[string]int) {
	t.Helper()
	c := l.Claims[node]
	lo, hi, err, e := proofs.Tight(p, box, l, node)
	if e != api.OK || !(said{toRat(lo.Text()), toRat(hi.Text()), toRat(err.Text())}).isWithin(readSaid(c)) {
		t.Errorf("the claim of the node %d does not follow, error %d", node, e)
	}
	for _, rule := range []int{api.PfStep, api.PfExact} {
		other := l
		other.Claims = append([]api.PfClaim(nil), l.Claims...)
		other.Claims[node] = api.PfClaim{Rule: rule}
		_, _, least, e := proofs.Tight(p, box, other, node)
		if e != api.OK || rule == c.Rule {
			continue
		}
		seen["another rule"]++
		// Of 8 bits a number is rounded up by less than a part of 127.
		if least.Mul(exact.Int(128)).Cmp(number(t, c.Err).Mul(exact.Int(127))) < 0 {
			t.Errorf("the rule %d has the error %s for the node %d, less than %s", rule, least.Text(), node, c.Err)
		}
	}
}
