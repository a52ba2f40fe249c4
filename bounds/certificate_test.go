package bounds_test

import (
	"fmt"
	"math/rand"
	"strings"
	"testing"

	"vernier/api"
	"vernier/bounds"
	"vernier/exact"
	"vernier/proofs"
	"vernier/ranges"
)

// TestP8_4_Certificate has polynomials whose certificates are easy to see.
func TestP8_4_Certificate(t *testing.T) {
	for _, x := range []struct{ what, l, box, want string }{
		{"x", "1 1", "2 5", "2 5 low 1/3 0 (1 0), 1/3 -1 (-2 0; 1 1) high 1/3 -1 (5 0; -1 1), 1/3 0 (1 0)"},
		{"-x + 7", "-1 1; 7 0", "2 5", "2 5 low 1/3 -1 (5 0; -1 1), 1/3 0 (1 0) high 1/3 0 (1 0), 1/3 -1 (-2 0; 1 1)"},
		{"x around 0", "1 1", "0 1", "0 1 low 1 0 (1 0), 1 -1 (1 1) high 1 -1 (1 0; -1 1), 1 0 (1 0)"},
		{"x^2 around 0", "1 2", "-1 1", "-1 1 low 1/2 -1 (1 0; -1 1), 1/2 -1 (1 0; 1 1) high 1 0 (1 0)"},
		{"(x - 1)^2", "1 2; -2 1; 1 0", "0 2", "-1 1 low 1/2 -1 (2 0; -1 1), 1/2 -1 (1 1) high 1 0 (1 0)"},
		// The coefficients of x^3 from 0 to 1 are 0, 0, 0, 0, 1 for the degree 4.
		{"x^3", "1 3", "0 1", "0 1 low 1 0 (1 1), 1 -1 (1 2) high 1 -1 (1 0; -2 1; 1 2), 4 0 (1 0; -1 1), 6 -1 (1 1; -1 2), 3 0 (1 1)"},
		{"x of degree 4", "1 1; 0 4; 0 0", "0 4", "0 4 low 1/64 0 (4 0; -1 1), 3/64 -1 (4 1; -1 2), 3/64 0 (1 1), 1/64 -1 (1 2) high 1/64 -1 (16 0; -8 1; 1 2), 3/64 0 (4 0; -1 1), 3/64 -1 (4 1; -1 2), 1/64 0 (1 1)"},
		{"what cancels", "1 2; -1 2", "0 1", "0 0 low high"},
		{"what cancels but 5", "0 3; 5 0; 1 1; -1 1", "-1/2 1/3", "5 5 low high"},
		{"the second of three", "1 0 1 0; 2 0 0 0", "x 1, 0 1, 0 x", ""},
		{"the second of three", "1 0 1 0; 2 0 0 0", "3 3, 0 1, 5 6", "2 3 low 1 1 (1 0 0 0), 1 -1 (1 0 1 0) high 1 -1 (1 0 0 0; -1 0 1 0), 1 1 (1 0 0 0)"},
		{"terms in any order", "1 0 2; -1 0 1; 0 0 0", "0 9, 1 2", "0 2 low 1 1 (1 0 0), 2 -1 (-1 0 0; 1 0 1) high 2 -1 (2 0 0; -1 0 1), 3 1 (1 0 0)"},
	} {
		e := api.OK
		if x.want == "" {
			e = api.ErrForm
		}
		expectCertificate(t, x.what, x.want, e)(bounds.Certificate(terms(x.l), spans(x.box)))
	}
}

// TestP8_4_Errors: those of Coefs come first, then those of the inputs and of the span, then
// those of long numbers.
func TestP8_4_Errors(t *testing.T) {
	long := "1/" + digits(2000)
	many := strings.Repeat("1 1 0; ", 201)
	for _, x := range []struct {
		what, l, box string
		e            api.Errno
	}{
		{"no span in order", "x 0", "1 0", api.ErrRange},
		{"no number of a span", "x 0", "1 0, 0 x", api.ErrForm},
		{"too many terms", many + "x 0", "0 1, 0 1", api.ErrLong},
		{"no number of a term", "x 0; 1 2 3 4", "0 1", api.ErrForm},
		{"too many exponents", "1 2 3; x 0", "0 1", api.ErrRange},
		{"too great an exponent", "1 17", "0 0", api.ErrRange},
		{"an exponent below 0", "1 -1", "0 0", api.ErrRange},
		{"too many coefficients", "1 8 0 0; 1 0 8 0; 1 0 0 7", "0 1, 0 1, 0 1", api.ErrLong},
		{"no term", "", "0 0", api.ErrRange},
		{"no span", "1", "", api.ErrRange},
		{"a number", "5 0", "0 0", api.ErrRange},
		{"two inputs", "1 1 0; 1 0 1", "0 0, 0 0", api.ErrRange},
		{"two inputs, one of a term 0", "1 1 0; 0 0 1", "0 1, 0 1", api.ErrRange},
		{"the last input too", "1 1 0 0; 1 0 0 3", "0 1, 0 1, 0 1", api.ErrRange},
		{"no width", "1 0 2", "0 1, 3 3", api.ErrZero},
		{"no width, long numbers", "1 2", long + " " + long, api.ErrZero},
		{"a long coefficient", "1 2", "0 " + long, api.ErrLong},
	} {
		expectCertificate(t, x.what, "", x.e)(bounds.Certificate(terms(x.l), spans(x.box)))
	}
}

// TestP8_4_Long: each number has its limit, at which it is not too long.
func TestP8_4_Long(t *testing.T) {
	nines := strings.Repeat("9", 2000)
	for _, x := range []struct {
		what, l, box string
		e            api.Errno
	}{
		{"hi", "1 1; " + digits(2000) + " 0", "0 1", api.OK},
		{"hi", "1 1; " + nines + " 0", "0 1", api.ErrLong},
		{"lo", "-1 1; -" + nines + " 0", "0 1", api.ErrLong},
		{"lo", "-1 1; -" + digits(2000) + " 0", "0 1", api.OK},
		{"lo where hi is short", "1 1", "-1/" + digits(2000) + " 0", api.OK},
		// The span's width squared divides the coefficient of the square in the middle.
		{"a square", "1/" + digits(2000) + " 1", "0 1", api.OK},
		{"a square", "1/" + digits(2000) + " 1", "0 10", api.ErrLong},
		// Of a degree above 2 a Poly has the square of an end.
		{"a term of Poly", "1 1; 0 4", "4" + digits(1000)[1:] + " 4" + digits(999)[1:] + "1", api.OK},
		{"a term of Poly", "1 1; 0 4", digits(1001) + " " + digits(1000) + "1", api.ErrLong},
		{"a term of Poly", "1 1; 0 2", digits(1001) + " " + digits(1000) + "1", api.OK},
	} {
		_, _, _, _, e := bounds.Certificate(terms(x.l), spans(x.box))
		if e != x.e {
			t.Errorf("%s: error %d, want %d", x.what, e, x.e)
		}
	}
}

// randomTerms returns terms in two inputs, most of them in one alone.
func randomTerms(random *rand.Rand) []api.PfTerm {
	input, degree := random.Intn(2), 1+random.Intn(9)
	switch random.Intn(10) {
	case 0:
		degree = 16
	case 1: // a number, but not by its degree
		return terms("1/3 0 0; 2 0 3; -2 0 3")
	case 2, 3:
		degree = 2
	}
	text := ""
	for range 1 + random.Intn(6) {
		pows := [2]int{}
		pows[input] = random.Intn(degree + 1)
		if random.Intn(40) == 0 {
			pows[1-input] = 16 - pows[input]
		}
		text += fmt.Sprintf("%s %d %d;", toText(rat(random.Int63n(41)-20, 1+random.Int63n(6))), pows[0], pows[1])
	}
	return terms(text)
}

func randomSpans(random *rand.Rand) []api.Span {
	var out []api.Span
	for range 2 {
		lo := rat(random.Int63n(13)-6, 1+random.Int63n(5))
		hi := plus(lo, rat(random.Int63n(9), 1+random.Int63n(7)))
		out = append(out, api.Span{Lo: toText(lo), Hi: toText(hi)})
	}
	return out
}

// TestP8_4_Model compares certificates with the second making; TestP8_9: they are what they
// have to be.
func TestP8_4_Model(t *testing.T) {
	random := rand.New(rand.NewSource(84))
	p := program(t, "format s 8 24; input x : s from 0 to 1; input y : s from 0 to 1; let r : s = x; result r")
	seen := map[string]int{}
	for range 1500 {
		l, box := randomTerms(random), randomSpans(random)
		wantLo, wantHi, wantLow, wantHigh, wantE := certificateModel(l, box)
		want := ""
		if wantE == api.OK {
			want = strings.Join(strings.Fields(fmt.Sprint(toText(wantLo), " ", toText(wantHi), " low ", squaresText(wantLow), " high ", squaresText(wantHigh))), " ")
		}
		lo, hi, low, high, e := bounds.Certificate(l, box)
		expectCertificate(t, dump(l, box), want, wantE)(lo, hi, low, high, e)
		seen[fmt.Sprint("error ", e)]++
		if e == api.OK {
			expectSquares(t, p, l, box, lo, low, 1)
			expectSquares(t, p, l, box, hi, high, -1)
			expectEnds(t, random, l, box, lo, hi)
			seen[fmt.Sprint("squares ", min(len(low), 3))]++
		}
		if t.Failed() {
			t.Fatalf("%v over %v", l, box)
		}
	}
	for _, what := range []string{"error 0", "error 7", "error 8", "squares 0", "squares 1", "squares 2", "squares 3"} {
		if seen[what] < 10 {
			t.Errorf("only %d times: %s", seen[what], what)
		}
	}
}

// expectSquares expects that the polynomial of squares is f less an end, or the end less f.
func expectSquares(t *testing.T, p api.Prog, l []api.PfTerm, box []api.Span, end exact.Num, squares []api.PfSquare, sign int64) {
	t.Helper()
	sum, e := proofs.Squares(p, box, squares)
	if e != api.OK {
		t.Errorf("Squares: error %d", e)
	}
	for _, x := range [][2]int64{{0, 0}, {1, 3}, {-2, 1}, {5, -4}, {7, 11}, {-13, 12}} {
		at := []exact.Num{exact.Int(x[0]), exact.Int(x[1])}
		f, _ := ranges.At(l, at)
		g, e := ranges.At(sum, at)
		if want := f.Sub(end).Mul(exact.Int(sign)); g.Cmp(want) != 0 || e != api.OK {
			t.Errorf("the squares are %s at %v, want %s", g.Text(), x, want.Text())
		}
	}
	// As many points are looked at as tell polynomials of these degrees apart.
	for k := range int64(17) {
		at := []exact.Num{exact.Int(k), exact.Int(k)}
		f, _ := ranges.At(l, at)
		g, _ := ranges.At(sum, at)
		if g.Cmp(f.Sub(end).Mul(exact.Int(sign))) != 0 {
			t.Errorf("the squares are %s at %d", g.Text(), k)
		}
	}
}

// expectEnds expects the polynomial between both ends, and Bernstein coefficients at the ends
// of the span (P8.9).
func expectEnds(t *testing.T, random *rand.Rand, l []api.PfTerm, box []api.Span, lo, hi exact.Num) {
	t.Helper()
	_, coefs, _ := ranges.Coefs(l, box)
	corner := func(of func(api.Span) api.Rat) exact.Num {
		x, _ := ranges.At(l, []exact.Num{number(t, of(box[0])), number(t, of(box[1]))})
		return x
	}
	first, last := corner(func(s api.Span) api.Rat { return s.Lo }), corner(func(s api.Span) api.Rat { return s.Hi })
	if first.Cmp(coefs[0]) != 0 || last.Cmp(coefs[len(coefs)-1]) != 0 {
		t.Errorf("at the ends %s and %s", first.Text(), last.Text())
	}
	for range 5 {
		part, _ := exact.Ratio(random.Int63n(17), 16)
		var at []exact.Num
		for _, s := range box {
			a, b := number(t, s.Lo), number(t, s.Hi)
			at = append(at, a.Add(b.Sub(a).Mul(part)))
		}
		if y, _ := ranges.At(l, at); y.Cmp(lo) < 0 || y.Cmp(hi) > 0 {
			t.Errorf("%s is not from %s to %s", y.Text(), lo.Text(), hi.Text())
		}
	}
}
