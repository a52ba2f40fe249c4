package bounds_test

import (
	"fmt"
	"math/big"
	"strings"
	"testing"

	"vernier/api"
	"vernier/exact"
	"vernier/lang"
	"vernier/proofs"
)

// The programs of the chapter's examples.
const (
	square = "format h 5 11; input x : h from 1 to 2; let a : h = x * x; let b : h = a - x; result b"
	mixed  = "format h 5 11; input x : h from 0 to 1; state t : h = x; loop; next t = t / 2 + x / 2; end; result t"
)

// program parses lines that end with semicolons.
func program(t testing.TB, text string) api.Prog {
	t.Helper()
	p, line, e := lang.Parse(strings.ReplaceAll(text, ";", "\n") + "\n")
	if e != api.OK {
		t.Fatalf("line %d has the error %d: %s", line, e, text)
	}
	return p
}

// spans reads a box such as "0 1, -1/2 3".
func spans(text string) []api.Span {
	var out []api.Span
	for part := range strings.SplitSeq(text, ",") {
		if words := strings.Fields(part); len(words) == 2 {
			out = append(out, api.Span{Lo: api.Rat(words[0]), Hi: api.Rat(words[1])})
		}
	}
	return out
}

// boxOf returns the box of a program.
func boxOf(p api.Prog) []api.Span {
	var out []api.Span
	for _, in := range p.Inputs {
		out = append(out, api.Span{Lo: in.Lo, Hi: in.Hi})
	}
	return out
}

// claims reads claims such as "step 1 2 0; - ; mean 0 1 1/8": the rule, Lo, Hi and Err,
// or a zero claim.
func claims(text string) []api.PfClaim {
	rules := map[string]int{"state": 0, "step": api.PfStep, "exact": api.PfExact, "mean": api.PfMean, "squares": api.PfSquares}
	var out []api.PfClaim
	for part := range strings.SplitSeq(text, ";") {
		words := strings.Fields(part)
		switch len(words) {
		case 1:
			out = append(out, api.PfClaim{})
		case 4:
			out = append(out, api.PfClaim{Rule: rules[words[0]], Lo: api.Rat(words[1]), Hi: api.Rat(words[2]), Err: api.Rat(words[3])})
		}
	}
	return out
}

// claimsText writes claims as claims reads them, with the numbers of squares, if there are
// any.
func claimsText(l ...api.PfClaim) string {
	names := []string{"state", "step", "exact", "mean", "squares"}
	var out []string
	for _, c := range l {
		text := "-"
		if dump(c) != dump(api.PfClaim{}) {
			text = fmt.Sprint(names[c.Rule], " ", c.Lo, " ", c.Hi, " ", c.Err)
		}
		if len(c.Low)+len(c.High) > 0 {
			text += fmt.Sprint(" low ", len(c.Low), " high ", len(c.High))
		}
		out = append(out, text)
	}
	return strings.Join(out, "; ")
}

// leaf returns a leaf with claims of nodes, and of states.
func leaf(nodes, states string) api.PfItem {
	return api.PfItem{Kind: api.PfLeaf, Claims: claims(nodes), States: claims(states)}
}

// leafText writes the claims of a leaf, those of states after a bar.
func leafText(l api.PfItem) string { return claimsText(l.Claims...) + " | " + claimsText(l.States...) }

// treeText writes the items of a proof: a split as its input and where it is, of a leaf the
// claim of the result.
func treeText(p api.Prog, q api.Proof) string {
	var out []string
	for _, x := range q.Items {
		text := fmt.Sprint("split ", x.Input, " ", x.At)
		if x.Kind == api.PfLeaf {
			text = claimsText(x.Claims[p.Result])
		}
		out = append(out, text)
	}
	return strings.Join(out, "; ")
}

// terms reads a polynomial such as "1 2 0; -1/2 0 1": a coefficient and the exponents.
func terms(text string) []api.PfTerm {
	var out []api.PfTerm
	for part := range strings.SplitSeq(text, ";") {
		words := strings.Fields(part)
		if len(words) == 0 {
			continue
		}
		term := api.PfTerm{Coef: api.Rat(words[0])}
		for _, word := range words[1:] {
			var n int
			fmt.Sscan(word, &n)
			term.Pows = append(term.Pows, n)
		}
		out = append(out, term)
	}
	return out
}

// squaresText writes squares such as "2 -1 (-1 0; 1 1)": Coef, Input and the terms of Poly.
func squaresText(l []api.PfSquare) string {
	var out []string
	for _, s := range l {
		var poly []string
		for _, x := range s.Poly {
			poly = append(poly, strings.TrimSpace(fmt.Sprint(string(x.Coef)+" ", strings.Trim(fmt.Sprint(x.Pows), "[]"))))
		}
		out = append(out, fmt.Sprintf("%s %d (%s)", s.Coef, s.Input, strings.Join(poly, "; ")))
	}
	return strings.Join(out, ", ")
}

// expectClaim expects a claim as claimsText writes it, or an error.
func expectClaim(t *testing.T, what, want string, wantE api.Errno) func(api.PfClaim, api.Errno) {
	return func(c api.PfClaim, e api.Errno) {
		t.Helper()
		if wantE != api.OK {
			want = "-"
		}
		if got := claimsText(c); got != want || e != wantE {
			t.Errorf("%s: %.400s, error %d, want %.400s, error %d", what, got, e, want, wantE)
		}
	}
}

// expectLeaf expects a leaf as leafText writes it, or an error.
func expectLeaf(t *testing.T, what, want string, wantE api.Errno) func(api.PfItem, api.Errno) {
	return func(l api.PfItem, e api.Errno) {
		t.Helper()
		kind := api.PfLeaf
		if wantE != api.OK {
			want, kind = " | ", 0
		}
		if got := leafText(l); got != want || e != wantE || l.Kind != kind || l.Input != 0 || l.At != "" {
			t.Errorf("%s: %.900s, error %d, want %.900s, error %d", what, got, e, want, wantE)
		}
	}
}

// expectStates expects claims of states, or an error.
func expectStates(t *testing.T, what, want string, wantE api.Errno) func([]api.PfClaim, api.Errno) {
	return func(l []api.PfClaim, e api.Errno) {
		t.Helper()
		if wantE != api.OK {
			want = ""
		}
		if got := claimsText(l...); got != want || e != wantE {
			t.Errorf("%s: %.400s, error %d, want %.400s, error %d", what, got, e, want, wantE)
		}
	}
}

// expectCertificate expects the ends and the squares, or an error.
func expectCertificate(t *testing.T, what, want string, wantE api.Errno) func(lo, hi exact.Num, low, high []api.PfSquare, e api.Errno) {
	return func(lo, hi exact.Num, low, high []api.PfSquare, e api.Errno) {
		t.Helper()
		if wantE != api.OK {
			want = "0 0 low high"
		}
		got := strings.Join(strings.Fields(fmt.Sprint(lo.Text(), " ", hi.Text(), " low ", squaresText(low), " high ", squaresText(high))), " ")
		if got != want || e != wantE {
			t.Errorf("%s: %.600s, error %d, want %.600s, error %d", what, got, e, want, wantE)
		}
	}
}

// expectProof expects a proof as treeText writes it, with the claim of it, or an error; what is
// proved has to be accepted.
func expectProof(t *testing.T, what string, p api.Prog, claim, tree string, wantE api.Errno) func(api.Proof, api.Errno) {
	return func(q api.Proof, e api.Errno) {
		t.Helper()
		if wantE != api.OK {
			claim, tree = "  ", ""
		}
		got := fmt.Sprint(q.Lo, " ", q.Hi, " ", q.Err)
		if got != claim || treeText(p, q) != tree || e != wantE {
			t.Errorf("%s: %.200s: %.900s, error %d, want %.200s: %.900s, error %d", what, got, treeText(p, q), e, claim, tree, wantE)
		}
		if wantE == api.OK {
			expectAccepted(t, what, p, q)
		}
	}
}

func expectAccepted(t *testing.T, what string, p api.Prog, q api.Proof) {
	t.Helper()
	if item, node, e := proofs.Check(p, q); e != api.OK {
		t.Errorf("%s: the item %d, node %d has the error %d", what, item, node, e)
	}
}

func expectNum(t *testing.T, what string, want api.Rat, wantE api.Errno) func(exact.Num, api.Errno) {
	return func(x exact.Num, e api.Errno) {
		t.Helper()
		if x.Text() != want || e != wantE {
			t.Errorf("%s: %.200s, error %d, want %.200s, error %d", what, x.Text(), e, want, wantE)
		}
	}
}

func number(t testing.TB, text api.Rat) exact.Num {
	t.Helper()
	x, e := exact.Parse(text)
	if e != api.OK {
		t.Fatalf("%.60q: error %d", text, e)
	}
	return x
}

func toRat(text api.Rat) *big.Rat {
	x, is := new(big.Rat).SetString(string(text))
	if !is {
		panic("no number: " + string(text))
	}
	return x
}

func toText(x *big.Rat) api.Rat { return api.Rat(x.RatString()) }

func rat(a, b int64) *big.Rat { return big.NewRat(a, b) }

func plus(x, y *big.Rat) *big.Rat { return new(big.Rat).Add(x, y) }

func less(x, y *big.Rat) *big.Rat { return new(big.Rat).Sub(x, y) }

func times(x, y *big.Rat) *big.Rat { return new(big.Rat).Mul(x, y) }

func over(x, y *big.Rat) *big.Rat { return new(big.Rat).Quo(x, y) }

func least(x, y *big.Rat) *big.Rat {
	if x.Cmp(y) < 0 {
		return x
	}
	return y
}

func greatest(x, y *big.Rat) *big.Rat {
	if x.Cmp(y) > 0 {
		return x
	}
	return y
}

func digits(count int) string { return "1" + strings.Repeat("0", count-1) }

// dump writes all parts of values; those that are equal have the same dump.
func dump(values ...any) string { return fmt.Sprintf("%+v", values) }
