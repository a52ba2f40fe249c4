package bounds_test

import (
	"fmt"
	"math/rand"
	"slices"
	"testing"

	"vernier/api"
	"vernier/bounds"
	"vernier/lang"
	"vernier/proofs"
)

// TestP8_Model compares all calls with the second making, for random programs and plans.
func TestP8_Model(t *testing.T) {
	random := rand.New(rand.NewSource(8))
	seen := map[string]int{}
	for range 1600 {
		p, plan := randomProgram(t, random), randomPlan(random)
		box := randomBox(random, p)
		if random.Intn(3) == 0 {
			box = boxOf(p)
		}
		compareLeaf(t, random, p, box, plan, seen)
		compareTrees(t, random, p, plan, seen)
		if t.Failed() {
			t.Fatalf("%+v\n%v\n%+v", p, box, plan)
		}
	}
	for _, what := range []string{
		"rule 1", "rule 2", "rule 3", "rule 4", "low", "high", "both",
		"Leaf 0", "Leaf 173", "Leaf 180", "Claim 0", "Claim 3", "Claim 7", "Claim 171", "Claim 173", "ends the wrong way round", "no step",
		"grew 0", "grew 1", "grew 2", "grew 5", "shrank 0", "shrank 1", "shrank 2", "shrank 3",
		"Derive 0", "Derive 173", "Derive 180", "items 1", "items 3", "items 9", "pruned", "pruned in part", "not pruned",
	} {
		if seen[what] < 4 {
			t.Errorf("only %d times: %s", seen[what], what)
		}
	}
}

func compareLeaf(t *testing.T, random *rand.Rand, p api.Prog, box []api.Span, plan api.BdPlan, seen map[string]int) {
	t.Helper()
	want, grew, shrank, wantE := leafModel(p, box, plan)
	got, e := bounds.Leaf(p, box, plan)
	expectSame(t, "Leaf", got, e, want, wantE)
	states, e := bounds.States(p, box, plan)
	expectSame(t, "States", states, e, want.States, wantE)
	seen[fmt.Sprint("Leaf ", e)]++
	if _, needed, _ := lang.Needs(p); e == api.OK && slices.Contains(needed, true) {
		seen[fmt.Sprint("grew ", min(grew, 5))]++
		seen[fmt.Sprint("shrank ", shrank)]++
	}
	for _, c := range want.Claims {
		seen[fmt.Sprint("rule ", c.Rule)]++
		switch {
		case len(c.Low) > 0 && len(c.High) > 0:
			seen["both"]++
		case len(c.Low) > 0:
			seen["low"]++
		case len(c.High) > 0:
			seen["high"]++
		}
	}
	if wantE != api.OK {
		want = newModel(p, box, plan).item
	}
	for range 3 {
		compareClaims(t, p, box, want, plan, seen)
		want = randomClaims(random, want)
	}
}

// compareClaims compares the calls of Claim for all nodes of a leaf.
func compareClaims(t *testing.T, p api.Prog, box []api.Span, l api.PfItem, plan api.BdPlan, seen map[string]int) {
	t.Helper()
	for i := range p.Nodes {
		m := newModel(p, box, plan)
		m.item = l
		want, e := m.best(i)
		wantE := e
		step := l
		step.Claims = slices.Clone(l.Claims)
		step.Claims[i] = api.PfClaim{Rule: api.PfStep}
		_, _, _, stepE := proofs.Tight(p, box, step, i)
		if stepE == api.ErrRange || stepE == api.ErrArg || stepE == proofs.ErrClaim {
			want, wantE = api.PfClaim{}, stepE
		}
		got, e := bounds.Claim(p, box, l, i, plan)
		expectSame(t, fmt.Sprint("Claim of ", i), got, e, want, wantE)
		seen[fmt.Sprint("Claim ", e)]++
		switch {
		case e != api.OK:
		case toRat(got.Lo).Cmp(toRat(got.Hi)) > 0:
			seen["ends the wrong way round"]++
		case stepE != api.OK:
			seen["no step"]++
		}
	}
}

// compareTrees compares the calls about whole proofs.
func compareTrees(t *testing.T, random *rand.Rand, p api.Prog, plan api.BdPlan, seen map[string]int) {
	t.Helper()
	want, wantE := deriveModel(p, plan)
	q, e := bounds.Derive(p, plan)
	expectSame(t, "Derive", q, e, want, wantE)
	seen[fmt.Sprint("Derive ", e)]++
	err, e := bounds.Error(p, plan)
	expectSame(t, "Error", string(err.Text()), e, map[bool]string{true: string(want.Err), false: "0"}[wantE == api.OK], wantE)
	if wantE != api.OK {
		return
	}
	seen[fmt.Sprint("items ", len(q.Items))]++
	other := randomPlan(random)
	if random.Intn(2) == 0 {
		other = plan
	}
	pruned := pruneModel(p, q, other)
	got, e := bounds.Prune(p, q, other)
	expectSame(t, "Prune", got, e, pruned, api.OK)
	switch after := len(pruned.Items); {
	case len(q.Items) == 1:
	case after == 1:
		seen["pruned"]++
	case after < len(q.Items):
		seen["pruned in part"]++
	default:
		seen["not pruned"]++
	}
	expectAccepted(t, "derived", p, q)
	expectAccepted(t, "pruned", p, got)
}

// expectSame compares results, and errors.
func expectSame(t *testing.T, what string, got any, e api.Errno, want any, wantE api.Errno) {
	t.Helper()
	if dump(got) != dump(want) || e != wantE {
		t.Errorf("%s:\n%.2000s, error %d, want\n%.2000s, error %d", what, dump(got), e, dump(want), wantE)
	}
}
