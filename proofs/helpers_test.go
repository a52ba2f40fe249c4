package proofs_test

import (
	"fmt"
	"slices"
	"strings"
	"testing"

	"vernier/api"
	"vernier/exact"
	"vernier/lang"
	"vernier/proofs"
)

// The program of the chapter's examples, and one with a loop.
const (
	square = "format h 5 11; input x : h from 1 to 2; let a : h = x * x; let b : h = a - x; result b"
	halves = "format h 5 11; input x : h from 0 to 1; state t : h = x; loop; next t = t / 2; end; result t"
)

// program parses lines that end with semicolons.
func program(t testing.TB, text string) api.Prog {
	t.Helper()
	p, line, e := lang.Parse(strings.ReplaceAll(text, ";", "\n") + "\n")
	if e != api.OK {
		t.Fatalf("line %d has the error %d: %s", line, e, text)
	}
	return p
}

// of parses lines in the formats h, s and d, with the inputs x, y and z in the format s,
// and the result r.
func of(t testing.TB, lines string) api.Prog {
	t.Helper()
	inputs := "input x : s from 0 to 1; input y : s from 0 to 1; input z : s from 0 to 1"
	return program(t, "format h 5 11; format s 8 24; format d 11 53; "+inputs+"; "+lines+"; result r")
}

// spans reads a box such as "0 1, -1/2 3".
func spans(text string) []api.Span {
	var out []api.Span
	for part := range strings.SplitSeq(text, ",") {
		if words := strings.Fields(part); len(words) == 2 {
			out = append(out, api.Span{Lo: api.Rat(words[0]), Hi: api.Rat(words[1])})
		}
	}
	return out
}

// claims reads claims such as "step 1 2 0; - ; mean 0 1 1/8": the rule, Lo, Hi and Err,
// or a zero claim.
func claims(t testing.TB, text string) []api.PfClaim {
	t.Helper()
	rules := map[string]int{"state": 0, "step": api.PfStep, "exact": api.PfExact, "mean": api.PfMean, "squares": api.PfSquares}
	var out []api.PfClaim
	for part := range strings.SplitSeq(text, ";") {
		words := strings.Fields(part)
		switch {
		case len(words) == 1 && words[0] == "-":
			out = append(out, api.PfClaim{})
		case len(words) == 4:
			rule, known := rules[words[0]]
			if !known {
				fmt.Sscan(words[0], &rule)
			}
			out = append(out, api.PfClaim{Rule: rule, Lo: api.Rat(words[1]), Hi: api.Rat(words[2]), Err: api.Rat(words[3])})
		case len(words) > 0:
			t.Fatalf("no claim: %s", part)
		}
	}
	return out
}

// leaf returns a leaf with claims of nodes, and of states.
func leaf(t testing.TB, nodes, states string) api.PfItem {
	t.Helper()
	return api.PfItem{Kind: api.PfLeaf, Claims: claims(t, nodes), States: claims(t, states)}
}

func split(input int, at api.Rat) api.PfItem {
	return api.PfItem{Kind: api.PfSplit, Input: input, At: at}
}

// proof returns a proof of a claim such as "0 1 1/8".
func proof(claim string, items ...api.PfItem) api.Proof {
	words := strings.Fields(claim)
	return api.Proof{Items: items, Lo: api.Rat(words[0]), Hi: api.Rat(words[1]), Err: api.Rat(words[2])}
}

// ofSquare is the proof of the chapter's examples.
func ofSquare(t testing.TB) api.Proof {
	t.Helper()
	return proof("-1 3 3/1024", leaf(t, "step 1 2 0; step 1 4 1/512; step -1 3 3/1024", ""))
}

// ofHalves is a proof for the program with a loop. Its nodes are x, the state in the body,
// 2, the quotient, and the state in the rest.
func ofHalves(t testing.TB) api.Proof {
	t.Helper()
	return proof("0 1 1/2048", leaf(t, "step 0 1 0; step 0 1 1/2048; step 2 2 0; step 0 1/2 1/2048; step 0 1 1/2048", "state 0 1 1/2048"))
}

// terms reads a polynomial such as "1 2 0; -1/2 0 1": a coefficient and the exponents.
func terms(text string) []api.PfTerm {
	var out []api.PfTerm
	for part := range strings.SplitSeq(text, ";") {
		words := strings.Fields(part)
		if len(words) == 0 {
			continue
		}
		term := api.PfTerm{Coef: api.Rat(words[0])}
		for _, word := range words[1:] {
			var n int
			fmt.Sscan(word, &n)
			term.Pows = append(term.Pows, n)
		}
		out = append(out, term)
	}
	return out
}

// termsText writes a polynomial as terms reads it.
func termsText(l []api.PfTerm) string {
	var out []string
	for _, x := range l {
		out = append(out, strings.TrimSpace(string(x.Coef)+" "+strings.Trim(fmt.Sprint(x.Pows), "[]")))
	}
	return strings.Join(out, "; ")
}

// sq returns a square of terms.
func sq(coef api.Rat, input int, poly string) api.PfSquare {
	return api.PfSquare{Coef: coef, Input: input, Poly: terms(poly)}
}

func number(t testing.TB, text api.Rat) exact.Num {
	t.Helper()
	x, e := exact.Parse(text)
	if e != api.OK {
		t.Fatalf("%.60q: error %d", text, e)
	}
	return x
}

// texts writes numbers with blanks between them.
func texts(l ...exact.Num) string {
	var out []string
	for _, x := range l {
		out = append(out, string(x.Text()))
	}
	return strings.Join(out, " ")
}

// expectCheck expects a place and an error of Check.
func expectCheck(t *testing.T, what string, item, node int, e api.Errno) func(int, int, api.Errno) {
	return func(gotItem, gotNode int, gotE api.Errno) {
		t.Helper()
		if gotItem != item || gotNode != node || gotE != e {
			t.Errorf("%s: %d, %d, error %d, want %d, %d, error %d", what, gotItem, gotNode, gotE, item, node, e)
		}
	}
}

// expectTight expects a tight claim such as "0 1 1/8", or an error.
func expectTight(t *testing.T, what, want string, wantE api.Errno) func(lo, hi, err exact.Num, e api.Errno) {
	return func(lo, hi, err exact.Num, e api.Errno) {
		t.Helper()
		if wantE != api.OK {
			want = "0 0 0"
		}
		if got := texts(lo, hi, err); got != want || e != wantE {
			t.Errorf("%s: %.400s, error %d, want %.400s, error %d", what, got, e, want, wantE)
		}
	}
}

// expectMean expects the ends of a mean value form, or an error.
func expectMean(t *testing.T, what, want string, wantE api.Errno) func(lo, hi exact.Num, e api.Errno) {
	return func(lo, hi exact.Num, e api.Errno) {
		t.Helper()
		if wantE != api.OK {
			want = "0 0"
		}
		if got := texts(lo, hi); got != want || e != wantE {
			t.Errorf("%s: %.400s, error %d, want %.400s, error %d", what, got, e, want, wantE)
		}
	}
}

// expectTerms expects terms, or an error.
func expectTerms(t *testing.T, what, want string, wantE api.Errno) func([]api.PfTerm, api.Errno) {
	return func(l []api.PfTerm, e api.Errno) {
		t.Helper()
		if got := termsText(l); got != want || e != wantE {
			t.Errorf("%s: %.400s, error %d, want %.400s, error %d", what, got, e, want, wantE)
		}
	}
}

// expectBoxes expects the numbers of leaves, and their boxes as spans reads them.
func expectBoxes(t *testing.T, what string, items []int, boxes []string, e api.Errno) func([]int, [][]api.Span, api.Errno) {
	return func(gotItems []int, gotBoxes [][]api.Span, gotE api.Errno) {
		t.Helper()
		same := slices.EqualFunc(gotBoxes, boxes, func(box []api.Span, text string) bool { return slices.Equal(box, spans(text)) })
		if !slices.Equal(gotItems, items) || !same || gotE != e {
			t.Errorf("%s: %v, %v, error %d, want %v, %v, error %d", what, gotItems, gotBoxes, gotE, items, boxes, e)
		}
	}
}

// expectProof expects a proof, or an error.
func expectProof(t *testing.T, what string, want api.Proof, wantE api.Errno) func(api.Proof, api.Errno) {
	return func(q api.Proof, e api.Errno) {
		t.Helper()
		if !proofs.Same(q, want) || e != wantE {
			t.Errorf("%s: %.400v, error %d, want %.400v, error %d", what, q, e, want, wantE)
		}
	}
}

// digits returns an integer with so many digits, a power of ten.
func digits(count int) string { return "1" + strings.Repeat("0", count-1) }

// dump writes all parts of values; those that are equal have the same dump.
func dump(values ...any) string { return fmt.Sprintf("%+v", values) }
