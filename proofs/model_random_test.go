package proofs_test

import (
	"fmt"
	"math/rand"
	"testing"

	"vernier/api"
	"vernier/exact"
	"vernier/floats"
	"vernier/proofs"
)

// TestP7_Model compares all calls with the second making, for random programs with
// random proofs.
func TestP7_Model(t *testing.T) {
	random := rand.New(rand.NewSource(7))
	seen := map[string]int{}
	for range 5000 {
		p := randomProgram(t, random)
		v := newProver(random, p)
		q, is := v.prove()
		want := checkModel(p, q)
		if is && want.e != api.OK {
			t.Fatalf("a proof that should be right: %v\n%+v\n%+v", want, p, q)
		}
		for range 3 {
			compareCheck(t, p, q, seen)
			compareLeaves(t, random, p, q, seen)
			if t.Failed() {
				t.Fatalf("%+v\n%+v", p, q)
			}
			q = spoil(random, p, q)
		}
	}
	for _, what := range []string{
		"Check 0", "Check 6", "Check 7", "Check 170", "Check 171", "Check 172", "Check 173", "Check 174", "Check 175",
		"rule 1", "rule 2", "rule 3", "rule 4", "low", "high", "both", "loop", "Tight 0", "Tight 171", "Tight 172", "Tight 173", "Mean 0", "Mean 171", "Mean 172", "Poly 0", "Poly 172", "leaf 2",
	} {
		if seen[what] < 20 {
			t.Errorf("only %d times: %s", seen[what], what)
		}
	}
	t.Log(seen)
}

func compareCheck(t *testing.T, p api.Prog, q api.Proof, seen map[string]int) {
	t.Helper()
	want := checkModel(p, q)
	expectCheck(t, "Check", want.item, want.node, want.e)(proofs.Check(p, q))
	seen[fmt.Sprint("Check ", want.e)]++
	if want.e == api.OK {
		countRules(p, q, seen)
	}
	_, leaves, v := treeModel(p, q)
	var items []int
	var boxes []string
	for _, l := range leaves {
		text := ""
		for _, s := range l.box {
			text += fmt.Sprint(s.Lo, " ", s.Hi, ", ")
		}
		items, boxes = append(items, l.item), append(boxes, text)
	}
	if v.e != api.OK {
		items, boxes = nil, nil
	}
	expectBoxes(t, "Boxes", items, boxes, v.e)(proofs.Boxes(p, q))
}

// countRules counts what there is in an accepted proof.
func countRules(p api.Prog, q api.Proof, seen map[string]int) {
	leaves := 0
	for _, x := range q.Items {
		if x.Kind == api.PfLeaf {
			leaves++
		}
		for _, c := range x.Claims {
			seen[fmt.Sprint("rule ", c.Rule)]++
			switch {
			case len(c.Low) > 0 && len(c.High) > 0:
				seen["both"]++
			case len(c.Low) > 0:
				seen["low"]++
			case len(c.High) > 0:
				seen["high"]++
			}
		}
	}
	seen[fmt.Sprint("leaf ", min(leaves, 2))]++
	if _, states := neededIn(p); len(states) > 0 {
		seen["loop"]++
	}
}

// compareLeaves compares the calls for one node of a leaf.
func compareLeaves(t *testing.T, random *rand.Rand, p api.Prog, q api.Proof, seen map[string]int) {
	t.Helper()
	_, leaves, v := treeModel(p, q)
	if v.e != api.OK {
		return
	}
	nodes, _ := neededIn(p)
	for _, l := range leaves {
		m := &model{p, toSpans(l.box), q.Items[l.item]}
		for node := range p.Nodes {
			if f, e := polyModel(p, node); e != api.OK {
				expectTerms(t, "Poly", "", e)(proofs.Poly(p, node))
				seen[fmt.Sprint("Poly ", e)]++
			} else {
				expectTerms(t, "Poly", f.text(), e)(proofs.Poly(p, node))
				seen["Poly 0"]++
			}
			if !nodes[node] {
				expectTight(t, "Tight", "", api.ErrRange)(proofs.Tight(p, l.box, m.item, node))
				expectMean(t, "Mean", "", api.ErrRange)(proofs.Mean(p, l.box, m.item, node))
				continue
			}
			compareNode(t, m, l.box, node, seen)
		}
		for _, c := range m.item.Claims {
			compareSquares(t, p, m.box, l.box, c.Low)
			compareSquares(t, p, m.box, l.box, c.High)
		}
	}
}

func compareNode(t *testing.T, m *model, box []api.Span, node int, seen map[string]int) {
	t.Helper()
	form, e := m.mean(node)
	want := ""
	if e == api.OK {
		want = fmt.Sprint(toText(form.lo), " ", toText(form.hi))
	}
	expectMean(t, "Mean", want, e)(proofs.Mean(m.p, box, m.item, node))
	seen[fmt.Sprint("Mean ", e)]++
	s, e := m.tight(node)
	want = ""
	if e == api.OK {
		want = fmt.Sprint(toText(s.lo), " ", toText(s.hi), " ", toText(s.err))
	}
	expectTight(t, "Tight", want, e)(proofs.Tight(m.p, box, m.item, node))
	seen[fmt.Sprint("Tight ", e)]++
}

func compareSquares(t *testing.T, p api.Prog, over []span, box []api.Span, l []api.PfSquare) {
	t.Helper()
	f, e := squaresModel(over, l)
	want := ""
	if e == api.OK {
		want = f.text()
	}
	expectTerms(t, "Squares", want, e)(proofs.Squares(p, box, l))
}

// TestP7_3_Rounding compares Rounding with the second making.
func TestP7_3_Rounding(t *testing.T) {
	random := rand.New(rand.NewSource(73))
	faults := 0
	for range 20000 {
		f := api.Format{E: 2 + random.Intn(5), P: 3 + random.Intn(12)}
		if random.Intn(10) == 0 {
			f = api.Format{E: 2 + random.Intn(10), P: 2 + random.Intn(112)}
		}
		if floats.Check(f) != api.OK {
			continue
		}
		mode := random.Intn(5)
		most := times(rat(int64(random.Intn(5000)), int64(1+random.Intn(300))), twoTo(random.Intn(40)-20))
		switch random.Intn(8) {
		case 0:
			most = greatestOf(f)
		case 1:
			most = plus(greatestOf(f), leastOf(f))
		case 2: // around a power of two
			most = plus(twoTo(random.Intn(8)-4), times(rat(int64(random.Intn(3)-1), 1), twoTo(-30)))
		case 3:
			most = twoTo(1 - biasOf(f))
		case 4:
			most = over(twoTo(1-biasOf(f)), rat(3, 1))
		}
		want, is := roundingModel(mode, f, most)
		got, e := proofs.Rounding(mode, f, number(t, toText(most)))
		switch {
		case is && (e != api.OK || got.Text() != toText(want)), !is && (e != proofs.ErrFault || got.Sign() != 0):
			t.Fatalf("Rounding(%d, %v, %s) = %s, error %d, want %v", mode, f, toText(most), got.Text(), e, want)
		case !is:
			faults++
		}
	}
	if faults < 500 {
		t.Errorf("only %d faults", faults)
	}
	for _, x := range []struct {
		mode int
		f    api.Format
		most api.Rat
		e    api.Errno
	}{
		{-1, api.Format{}, "-1", api.ErrArg}, {5, api.Format{E: 5, P: 11}, "1", api.ErrArg},
		{0, api.Format{E: 1, P: 11}, "-1", api.ErrArg}, {0, api.Format{E: 2, P: 2}, "1", api.ErrArg},
		{4, api.Format{E: 5, P: 11}, "-1/1000000", api.ErrRange}, {4, api.Format{E: 5, P: 11}, "65505", proofs.ErrFault},
		{4, api.Format{E: 5, P: 11}, "131009/2", proofs.ErrFault},
	} {
		expectNum(t, dump(x), "0", x.e)(proofs.Rounding(x.mode, x.f, number(t, x.most)))
	}
	h := api.Format{E: 5, P: 11}
	for mode, want := range []api.Rat{"16", "16", "32", "32", "32"} {
		expectNum(t, "the greatest value", want, api.OK)(proofs.Rounding(mode, h, exact.Int(65504)))
		expectNum(t, "0", "0", api.OK)(proofs.Rounding(mode, h, exact.Num{}))
	}
}
