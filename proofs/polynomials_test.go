package proofs_test

import (
	"fmt"
	"math"
	"math/rand"
	"slices"
	"testing"

	"vernier/api"
	"vernier/proofs"
)

// TestP7_5_Poly: the polynomials of operations.
func TestP7_5_Poly(t *testing.T) {
	for _, x := range []struct {
		lines, want string
		e           api.Errno
	}{
		{"let r : s = x + 0 * y", "1 1 0 0", api.OK},
		{"let r : s = 5 - 5", "", api.OK},
		{"let r : s = {5/4}", "5/4 0 0 0", api.OK},
		{"let r : s = 0", "", api.OK},
		{"let r : s = -x", "-1 1 0 0", api.OK},
		{"let r : s = s(z)", "1 0 0 1", api.OK},
		{"let r : s = x + y", "1 0 1 0; 1 1 0 0", api.OK},
		{"let r : s = x - y", "-1 0 1 0; 1 1 0 0", api.OK},
		{"let r : s = x - x", "", api.OK},
		{"let r : s = x + x", "2 1 0 0", api.OK},
		{"let r : s = x * y", "1 1 1 0", api.OK},
		{"let r : s = (x + y) * (x - y)", "-1 0 2 0; 1 2 0 0", api.OK},
		{"let r : s = fma(x, y, z)", "1 0 0 1; 1 1 1 0", api.OK},
		{"let r : s = fma(x, x, -x * x)", "", api.OK},
		{"let r : s = (x - x) * y", "", api.OK},
		{"let r : s = (x + {1/3}) * (x + {1/3})", "1/9 0 0 0; 2/3 1 0 0; 1 2 0 0", api.OK},
		{"let r : s = (z * z + y) * (1 + x)", "1 0 0 2; 1 0 1 0; 1 1 0 2; 1 1 1 0", api.OK},
		{"let r : s = x / y", "", proofs.ErrRule},
		{"let r : s = abs(x)", "", proofs.ErrRule},
		{"let r : s = sqrt(x) + y", "", proofs.ErrRule},
		{"let r : s = min(x, y)", "", proofs.ErrRule},
		{"let r : s = max(x, y) * 0", "", proofs.ErrRule},
		{"let r : s = if x <= x then x else x", "", proofs.ErrRule},
	} {
		p := of(t, x.lines)
		expectTerms(t, x.lines, x.want, x.e)(proofs.Poly(p, p.Result))
	}
	p := program(t, halves)
	for node, e := range []api.Errno{api.OK, proofs.ErrRule, api.OK, proofs.ErrRule, proofs.ErrRule} {
		if _, got := proofs.Poly(p, node); got != e {
			t.Errorf("Poly of the node %d: error %d, want %d", node, got, e)
		}
	}
	expectTerms(t, "no node", "", api.ErrRange)(proofs.Poly(p, 5))
	expectTerms(t, "a node below 0", "", api.ErrRange)(proofs.Poly(p, -1))
	p.Formats = nil
	expectTerms(t, "no program", "", api.ErrArg)(proofs.Poly(p, 9))
	// A node that is not needed has one, too; without inputs there are no exponents.
	p = program(t, "format s 8 24; let w : s = 3; let r : s = 4; result r")
	expectTerms(t, "a constant", "3", api.OK)(proofs.Poly(p, 0))
}

// TestP7_5_TooLarge: polynomials with too many terms, or a degree that is too great, wherever
// they are formed.
func TestP7_5_TooLarge(t *testing.T) {
	sixteen := "let a : s = x * x; let b : s = a * a; let c : s = b * b; let q : s = c * c; "
	for _, x := range []struct {
		lines, want string
		e           api.Errno
	}{
		{sixteen + "let r : s = q", "1 16 0 0", api.OK},
		{sixteen + "let r : s = q * 1", "1 16 0 0", api.OK},
		{sixteen + "let r : s = q + y", "1 0 1 0; 1 16 0 0", api.OK},
		{sixteen + "let r : s = q * y", "", api.ErrLong},
		{sixteen + "let r : s = q * y * 0", "", api.ErrLong},
		{sixteen + "let e : s = q * y; let r : s = e - e", "", api.ErrLong},
		{sixteen + "let r : s = fma(q, y, -(q * y))", "", api.ErrLong},
		{sixteen + "let r : s = fma(q, y, x)", "", api.ErrLong},
		{sixteen + "let r : s = fma(q, y - y, x)", "1 1 0 0", api.OK},
		{sixteen + "let r : s = q * (y - y)", "", api.OK},
		{sixteen + "let r : s = sqrt(q * y)", "", proofs.ErrRule},
		{sixteen + "let e : s = q * q; let r : s = e / y", "", proofs.ErrRule},
	} {
		p := of(t, x.lines)
		expectTerms(t, x.lines, x.want, x.e)(proofs.Poly(p, p.Result))
	}
	// Powers of a sum of inputs: of four inputs with 1, the fifth one has 126 terms, and the sixth one 210.
	inputs := "format s 8 24; input x : s from 0 to 1; input y : s from 0 to 1; input z : s from 0 to 1; input w : s from 0 to 1; "
	powers := inputs + "let a : s = 1 + x + y + z + w; let b : s = a * a; let d : s = b * b; let e : s = d * a; "
	for _, x := range []struct {
		lines string
		terms int
		e     api.Errno
	}{
		{powers + "let r : s = e; result r", 126, api.OK},
		{powers + "let r : s = e * a; result r", 0, api.ErrLong},
		{powers + "let r : s = fma(e, a, x); result r", 0, api.ErrLong},
		// 126 terms, and 70 of degree 4, times x^6: 196.
		{powers + "let f : s = x * x * x; let r : s = fma(d, f * f, e); result r", 126 + 70, api.OK},
		{powers + "let f : s = x * x * x; let r : s = d * (f * f) + e + y * (f * f * f * f); result r", 197, api.OK},
		{powers + "let f : s = x * x * x; let g : s = f * f * f * f; let h : s = d * (f * f) + e + (y + z + w) * g; let r : s = h + g * z * y; result r", 200, api.OK},
		{powers + "let f : s = x * x * x; let g : s = f * f * f * f; let h : s = d * (f * f) + e + (y + z + w) * g; let r : s = h + g * z * y + g * z * z; result r", 0, api.ErrLong},
		{powers + "let f : s = x * x * x; let g : s = f * f * f * f; let h : s = d * (f * f) + e + (y + z + w) * g; let r : s = fma(g, z * z, h + g * z * y) - h; result r", 0, api.ErrLong},
	} {
		p := program(t, x.lines)
		l, e := proofs.Poly(p, p.Result)
		if len(l) != x.terms || e != x.e {
			t.Errorf("%s: %d terms, error %d, want %d, error %d", x.lines, len(l), e, x.terms, x.e)
		}
	}
	// Coefficients have any number of digits, but no exponents of 2 that no result may have.
	p := api.Prog{Formats: []api.Format{{E: 11, P: 53}}, Nodes: []api.Node{{Op: api.OpConst, Value: "1/2"}}}
	for i := range 63 {
		p.Nodes = append(p.Nodes, api.Node{Op: api.OpMul, A: i, B: i})
	}
	p.Head, p.Tail = 64, 64
	if l, e := proofs.Poly(p, 13); e != api.OK || len(l) != 1 || len(l[0].Coef) != 2+2467 {
		t.Errorf("Poly of 2^-8192: %d bytes, error %d", len(l[0].Coef), e)
	}
	expectTerms(t, "2^-2^63", "", api.ErrLong)(proofs.Poly(p, 63))
}

// sum is a program with two inputs.
const sum = "format s 8 24; input x : s from 0 to 1; input y : s from 0 to 1; let r : s = x + y; result r"

// TestP7_5_Squares: the polynomial of squares.
func TestP7_5_Squares(t *testing.T) {
	p, box := program(t, sum), spans("-1 2, 3 5")
	for _, x := range []struct {
		name    string
		squares []api.PfSquare
		want    string
	}{
		{"nothing", nil, ""},
		{"0", []api.PfSquare{sq("1", -1, "")}, ""},
		{"a number", []api.PfSquare{sq("2", -1, "-3 0 0")}, "18 0 0"},
		{"a coefficient 0", []api.PfSquare{sq("0", -1, "-3 0 0")}, ""},
		{"a sum", []api.PfSquare{sq("1", -1, "1 1 0; -1 0 1")}, "1 0 2; -2 1 1; 1 2 0"},
		{"two squares", []api.PfSquare{sq("1", -1, "1 1 0; -1 0 1"), sq("1", -1, "1 1 0; 1 0 1")}, "2 0 2; 2 2 0"},
		{"terms with the same exponents", []api.PfSquare{sq("1", -1, "1 1 0; 2 0 0; 1/2 1 0; -2 0 0")}, "9/4 2 0"},
		{"terms 0", []api.PfSquare{sq("1", -1, "0 3 1; 1 0 1; 0 0 1")}, "1 0 2"},
		{"a weight", []api.PfSquare{sq("3", 0, "1 0 0")}, "6 0 0; 3 1 0; -3 2 0"},
		{"the other weight", []api.PfSquare{sq("1", 1, "1 1 0")}, "-15 2 0; 8 2 1; -1 2 2"},
		{"a sum with a weight", []api.PfSquare{sq("1", 0, "1 0 0"), sq("1", -1, "1 1 0")}, "2 0 0; 1 1 0"},
	} {
		expectTerms(t, x.name, x.want, api.OK)(proofs.Squares(p, box, x.squares))
	}
	expectTerms(t, "a span without a width", "-9/4 0 0; 3 1 0; -1 2 0", api.OK)(proofs.Squares(p, spans("3/2 3/2, 0 0"), []api.PfSquare{sq("1", 0, "1 0 0")}))
	expectTerms(t, "a weight that begins at 0", "2 1 0; -1 2 0", api.OK)(proofs.Squares(p, spans("0 2, 0 0"), []api.PfSquare{sq("1", 0, "1 0 0")}))
}

// TestP7_5_SquareErrors: the errors of squares, in their order.
func TestP7_5_SquareErrors(t *testing.T) {
	p, box := program(t, sum), spans("-1 2, 3 5")
	good := sq("1", -1, "1 1 0")
	many := slices.Repeat([]api.PfSquare{good}, 21)
	more := func(s ...api.PfSquare) []api.PfSquare { return append([]api.PfSquare{good}, s...) }
	terms := func(count int) api.PfSquare {
		return api.PfSquare{Coef: "1", Input: -1, Poly: slices.Repeat(terms("1 1 0"), count)}
	}
	pows := func(n ...int) api.PfSquare {
		return api.PfSquare{Coef: "1", Input: -1, Poly: []api.PfTerm{{Coef: "1", Pows: n}}}
	}
	bad := sq("x", 7, "x 77")
	for _, x := range []struct {
		name    string
		squares []api.PfSquare
		e       api.Errno
	}{
		{"20 squares", many[:20], api.OK},
		{"21 squares", append(many[:20:20], bad), api.ErrLong},
		{"200 terms", more(terms(200)), api.OK},
		{"201 terms", []api.PfSquare{bad, terms(201)}, api.ErrLong},
		{"no coefficient", more(sq("", 7, "x")), api.ErrForm},
		{"a long coefficient", more(sq(long, 7, "x"), bad), api.ErrLong},
		{"a coefficient below 0", more(sq("-1/5", -1, "x"), bad), api.ErrRange},
		{"an input that is none", more(sq("1", 2, "x"), bad), api.ErrRange},
		{"an input below -1", more(sq("1", -2, "x"), bad), api.ErrRange},
		{"a term without a coefficient", more(sq("1", 1, "1 1 0; 2/4 77 0"), bad), api.ErrForm},
		{"a term with a long coefficient", more(api.PfSquare{Coef: "1", Poly: []api.PfTerm{{Coef: long}}}, bad), api.ErrLong},
		{"fewer exponents", more(pows(1), bad), api.ErrRange},
		{"more exponents", more(pows(1, 0, 0), bad), api.ErrRange},
		{"no exponents", more(pows(), bad), api.ErrRange},
		{"an exponent below 0", more(pows(1, -1), bad), api.ErrRange},
		{"an exponent above 16", more(pows(17, 0), bad), api.ErrRange},
		{"exponents far above 16", more(pows(math.MaxInt, math.MaxInt), bad), api.ErrRange},
		{"exponents with a sum above 16", more(pows(8, 9), bad), api.ErrRange},
		{"exponents with the sum 16", more(pows(8, 8)), api.ErrLong},
		{"what is too large comes last", more(pows(8, 8), bad), api.ErrForm},
		{"the first term with an error", more(sq("1", 1, "1 1 17; x 1 0")), api.ErrRange},
		{"a square of degree 16", more(pows(5, 3)), api.OK},
		{"a square of degree 18", more(pows(5, 4)), api.ErrLong},
		{"a square of degree 18 that is not counted", more(api.PfSquare{Coef: "0", Input: -1, Poly: pows(5, 4).Poly}), api.ErrLong},
		{"a weighted square of degree 16", more(api.PfSquare{Coef: "1", Input: 1, Poly: pows(5, 2).Poly}), api.OK},
		{"a weighted square of degree 18", more(api.PfSquare{Coef: "1", Input: 1, Poly: pows(5, 3).Poly}), api.ErrLong},
		{"a term 0 of degree 16", more(sq("1", 1, "0 16 0; 1 1 1")), api.OK},
	} {
		if l, e := proofs.Squares(p, box, x.squares); e != x.e || e != api.OK && len(l) > 0 {
			t.Errorf("%s: %v, error %d, want %d", x.name, l, e, x.e)
		}
	}
	expectTerms(t, "fewer spans", "", api.ErrArg)(proofs.Squares(p, box[:1], many))
	expectTerms(t, "no number", "", api.ErrForm)(proofs.Squares(p, spans("2 1, x 1"), many))
	expectTerms(t, "a span with its ends in the other order", "", api.ErrRange)(proofs.Squares(p, spans("2 1, 1 2"), many))
	p.Mode = 9
	expectTerms(t, "no program", "", api.ErrArg)(proofs.Squares(p, spans("x 1"), many))
}

// TestP7_5_SumTooLarge: the sum up to each square must not be too large, even if terms of
// later ones would take others away.
func TestP7_5_SumTooLarge(t *testing.T) {
	p := program(t, "format s 8 24; input x : s from 0 to 1; input y : s from 0 to 1; input z : s from 0 to 1; input w : s from 0 to 1; let r : s = x; result r")
	box := spans("0 1, 0 1, 0 1, 0 1")
	// The square of 1 + x + y + z + w + .. with all terms of degree 2 has 70 terms; times x^4 and y^4 they are others.
	second := func(factor ...int) api.PfSquare {
		s := api.PfSquare{Coef: "1", Input: -1}
		for i := range 81 {
			pows := []int{i / 27, i / 9 % 3, i / 3 % 3, i % 3}
			if pows[0]+pows[1]+pows[2]+pows[3] > 2 {
				continue
			}
			for k, n := range factor {
				pows[k] += n
			}
			s.Poly = append(s.Poly, api.PfTerm{Coef: "1", Pows: pows})
		}
		return s
	}
	for _, x := range []struct {
		squares []api.PfSquare
		terms   int
	}{
		{[]api.PfSquare{second(0, 0, 0, 0)}, 70},
		{[]api.PfSquare{second(0, 0, 0, 0), second(5, 0, 0, 0)}, 140},
		{[]api.PfSquare{second(5, 0, 0, 0), second(0, 5, 0, 0)}, 140},
		{[]api.PfSquare{second(0, 0, 0, 0), second(5, 0, 0, 0), second(0, 5, 0, 0)}, 0},
	} {
		l, e := proofs.Squares(p, box, x.squares)
		if len(l) != x.terms || (e != api.OK) != (x.terms == 0) || e != api.OK && e != api.ErrLong {
			t.Errorf("%d squares: %d terms, error %d, want %d", len(x.squares), len(l), e, x.terms)
		}
	}
}

// TestP7_5_Model compares Poly and Squares with the second making, for sums and products of
// few inputs, and for random squares.
func TestP7_5_Model(t *testing.T) {
	random := rand.New(rand.NewSource(75))
	seen := map[api.Errno]int{}
	p := program(t, "format s 8 24; input x : s from 0 to 1; input y : s from 0 to 1; let r : s = x; result r")
	box := spans("-1/2 2, 1/3 3")
	for range 3000 {
		var l []api.PfSquare
		for range random.Intn(4) {
			s := api.PfSquare{Coef: toText(rat(random.Int63n(5), 1+random.Int63n(3))), Input: random.Intn(3) - 1}
			for range random.Intn(5) {
				pows := []int{random.Intn(5), random.Intn(5)}
				if random.Intn(9) == 0 {
					pows[random.Intn(2)] = random.Intn(12)
				}
				s.Poly = append(s.Poly, api.PfTerm{Coef: toText(rat(random.Int63n(9)-4, 1+random.Int63n(3))), Pows: pows})
			}
			l = append(l, s)
		}
		f, e := squaresModel(toSpans(box), l)
		want := ""
		if e == api.OK {
			want = f.text()
		}
		seen[e]++
		expectTerms(t, dump(l), want, e)(proofs.Squares(p, box, l))
	}
	for range 3000 {
		q := api.Prog{Formats: []api.Format{{E: 8, P: 24}}, Inputs: p.Inputs}
		for i := range 4 + random.Intn(16) {
			n := api.Node{Op: []int{api.OpAdd, api.OpSub, api.OpMul, api.OpMul, api.OpFma, api.OpNeg, api.OpCast}[random.Intn(7)]}
			switch {
			case i < 2:
				n = api.Node{Op: api.OpInput, A: i}
			case i < 4:
				n = api.Node{Op: api.OpConst, Value: toText(rat(random.Int63n(7)-3, 1+random.Int63n(4)))}
			default:
				for k := range operandsOf(n) {
					*[...]*int{&n.A, &n.B, &n.C}[k] = max(random.Intn(i), random.Intn(i))
				}
			}
			q.Nodes = append(q.Nodes, n)
		}
		q.Head, q.Tail = len(q.Nodes), len(q.Nodes)
		for node := range q.Nodes {
			f, e := polyModel(q, node)
			want := ""
			if e == api.OK {
				want = f.text()
			}
			seen[e]++
			expectTerms(t, fmt.Sprint(node, " of ", q.Nodes), want, e)(proofs.Poly(q, node))
		}
		if t.Failed() {
			return
		}
	}
	if seen[api.OK] < 1000 || seen[api.ErrLong] < 300 {
		t.Errorf("outcomes: %v", seen)
	}
}
