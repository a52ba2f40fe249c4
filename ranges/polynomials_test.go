package ranges_test

import (
	"fmt"
	"math"
	"math/big"
	"math/rand"
	"slices"
	"strconv"
	"strings"
	"testing"

	"vernier/api"
	"vernier/exact"
	"vernier/ranges"
)

// terms reads terms such as "-1/2 3 0; 1 0 2": a coefficient, and the exponents.
func terms(text string) []api.PfTerm {
	var out []api.PfTerm
	for part := range strings.SplitSeq(text, ";") {
		words := strings.Fields(part)
		if len(words) == 0 {
			continue
		}
		x := api.PfTerm{Coef: api.Rat(words[0])}
		for _, word := range words[1:] {
			n, _ := strconv.Atoi(word)
			x.Pows = append(x.Pows, n)
		}
		out = append(out, x)
	}
	return out
}

// expectCoefs expects degrees and coefficients, and the interval of them.
func expectCoefs(t *testing.T, what string, l []api.PfTerm, box []api.Span, wantDegrees []int, want string, wantE api.Errno) {
	t.Helper()
	degrees, coefs, e := ranges.Coefs(l, box)
	if !slices.Equal(degrees, wantDegrees) || texts(coefs) != want || e != wantE {
		t.Errorf("%s: degrees %v, %.200s, error %d, want %v, %.200s, error %d", what, degrees, texts(coefs), e, wantDegrees, want, wantE)
	}
	a, e := ranges.Bernstein(l, box)
	least, greatest := exact.Num{}, exact.Num{}
	if wantE == api.OK {
		all := numbers(t, want)
		least, greatest = slices.MinFunc(all, exact.Num.Cmp), slices.MaxFunc(all, exact.Num.Cmp)
	}
	if a.Lo().Cmp(least) != 0 || a.Hi().Cmp(greatest) != 0 || e != wantE {
		t.Errorf("%s: Bernstein %.200s, error %d, want error %d", what, show(a), e, wantE)
	}
}

// TestP6_6_At: values of polynomials.
func TestP6_6_At(t *testing.T) {
	for _, c := range []struct{ l, x, want string }{
		{"", "", "0"}, {"", "1 2 3", "0"}, {"3", "", "3"}, {"3; -1/2", "", "5/2"}, {"-1 1; 1 2", "3", "6"}, {"-1 1; 1 2", "1/2", "-1/4"},
		{"1 0", "0", "1"}, {"1 16", "-2", "65536"}, {"1 1 1; 2 0 3; 1 1 1", "2 -1/3", "-38/27"}, {"0 5 5; 1/7 0 0", "9 9", "1/7"},
		{"1 0 16 0", "5 -1 7", "1"}, {"1 5 6 5", "1 2 3", "15552"}, {"2 1; -2 1", "1/3", "0"},
	} {
		if x, e := ranges.At(terms(c.l), numbers(t, c.x)); string(x.Text()) != c.want || e != api.OK {
			t.Errorf("%s at %s: %s, error %d, want %s", c.l, c.x, x.Text(), e, c.want)
		}
	}
}

// TestP6_6_Errors: the errors of terms, in their order.
func TestP6_6_Errors(t *testing.T) {
	many := func(count int, last string) string { return strings.Repeat("1 1 1; ", count-1) + last }
	for _, c := range []struct {
		l string
		e api.Errno
	}{
		{many(200, "1 1 1"), api.OK}, {many(201, "1 1 1"), api.ErrLong}, {"x 1 1;" + many(200, "1 1 1"), api.ErrLong},
		{many(200, "x 1 1"), api.ErrForm}, {many(200, "1 1"), api.ErrRange},
		{"x 1 1", api.ErrForm}, {"2/4 1", api.ErrForm}, {digits(2001) + " 1 1", api.ErrLong}, {digits(2000) + " 1 1", api.OK},
		{"1 1", api.ErrRange}, {"1 1 1 1", api.ErrRange}, {"1", api.ErrRange}, {"1 -1 1", api.ErrRange}, {"1 1 -1", api.ErrRange},
		{"0 16 1", api.ErrRange}, {"1 8 9", api.ErrRange}, {"1 17 0", api.ErrRange}, {"1 17 -1", api.ErrRange}, {"1 16 0", api.OK}, {"1 0 16", api.OK}, {"1 8 8", api.OK},
		{"1 1; x 1 1", api.ErrRange}, {"x 1 1; 1 1", api.ErrForm}, {"1 1 1; 1 1; x 1 1", api.ErrRange},
	} {
		x := numbers(t, "1 1")
		if value, e := ranges.At(terms(c.l), x); e != c.e || e != api.OK && value.Sign() != 0 {
			t.Errorf("%.30s: At has the error %d, want %d", c.l, e, c.e)
		}
		for _, box := range []string{"0 1, 2 2", "-1 1/3, 5 7"} {
			degrees, coefs, e := ranges.Coefs(terms(c.l), spans(box))
			a, f := ranges.Bernstein(terms(c.l), spans(box))
			if e != c.e || f != c.e || e != api.OK && (len(degrees) > 0 || len(coefs) > 0 || show(a) != "0 0") {
				t.Errorf("%.30s: Coefs has the error %d, Bernstein %d, want %d", c.l, e, f, c.e)
			}
		}
		for _, b := range wrongBoxes {
			if _, _, e := ranges.Coefs(terms(c.l), spans(b.box)); e != b.e {
				t.Errorf("%.30s over %.30s: Coefs has the error %d, want %d", c.l, b.box, e, b.e)
			}
			if _, e := ranges.Bernstein(terms(c.l), spans(b.box)); e != b.e {
				t.Errorf("%.30s over %.30s: Bernstein has the error %d, want %d", c.l, b.box, e, b.e)
			}
		}
	}
	for _, pows := range [][]int{{math.MaxInt, math.MaxInt}, {math.MaxInt, 2}, {math.MinInt, math.MinInt}, {math.MinInt, 16}} {
		l := []api.PfTerm{{Coef: "1", Pows: pows}}
		if _, e := ranges.At(l, numbers(t, "1 1")); e != api.ErrRange {
			t.Errorf("%v: error %d", pows, e)
		}
		expectCoefs(t, fmt.Sprint(pows), l, spans("0 1, 0 1"), nil, "", api.ErrRange)
	}
}

// TestP6_6_Coefs: Bernstein coefficients of some polynomials.
func TestP6_6_Coefs(t *testing.T) {
	for _, c := range []struct {
		l, box  string
		degrees []int
		want    string
	}{
		{"", "", nil, "0"},
		{"", "1 2, 3 4", []int{0, 0}, "0"},
		{"3; -1/2", "", nil, "5/2"},
		{"1/3 0 0", "1 2, 3 4", []int{0, 0}, "1/3"},
		{"1 1", "2 5", []int{1}, "2 5"},
		{"1 1", "5 5", []int{1}, "5 5"},
		{"1 2", "0 1", []int{2}, "0 0 1"},
		{"1 2", "-1 1", []int{2}, "1 -1 1"},
		{"1 2", "3 3", []int{2}, "9 9 9"},
		{"1 3", "0 2", []int{3}, "0 0 0 8"},
		{"1 3", "1 2", []int{3}, "1 2 4 8"},
		{"-1 1; 1 2", "1 2", []int{2}, "0 1/2 2"},
		{"1 2; -1 1", "1 2", []int{2}, "0 1/2 2"},
		{"1 1; -2 1; 1 2", "1 2", []int{2}, "0 1/2 2"},
		{"1 1; 0 3", "0 3", []int{3}, "0 1 2 3"},     // a term whose coefficient is 0 has a degree
		{"1 1; 1 2; -1 2", "0 2", []int{2}, "0 1 2"}, // so have terms that cancel
		{"1 1", "-1/3 2/7", []int{1}, "-1/3 2/7"},
		{"1 2", "-1/3 2/7", []int{2}, "1/9 -2/21 4/49"},
		{"1 1 0; 10 0 1", "0 1, 2 3", []int{1, 1}, "20 30 21 31"}, // the last input changes fastest
		{"1 1 1", "1 2, 3 5", []int{1, 1}, "3 5 6 10"},
		{"1 1 2", "1 2, 0 1", []int{1, 2}, "0 0 1 0 0 2"},
		{"1 2 1", "0 1, 1 2", []int{2, 1}, "0 0 0 0 1 2"},
		{"1 1 0 0; 10 0 1 0; 100 0 0 1", "0 1, 0 1, 0 1", []int{1, 1, 1}, "0 100 10 110 1 101 11 111"},
		{"1 0 2 0", "7 8, 0 2, 5 5", []int{0, 2, 0}, "0 0 4"},
	} {
		expectCoefs(t, c.l+" over "+c.box, terms(c.l), spans(c.box), c.degrees, c.want, api.OK)
	}
	// x^16 from 0 to 1, and 1 to 2: powers of 2.
	zeros := strings.Repeat("0 ", 16) + "1"
	expectCoefs(t, "x^16", terms("1 16"), spans("0 1"), []int{16}, zeros, api.OK)
	var powers []string
	for k := range 17 {
		powers = append(powers, strconv.Itoa(1<<k))
	}
	expectCoefs(t, "x^16 from 1 on", terms("1 16"), spans("1 2"), []int{16}, strings.Join(powers, " "), api.OK)
}

// TestP6_6_Many: there are at most 600 coefficients; how many inputs there are makes no
// difference.
func TestP6_6_Many(t *testing.T) {
	for _, c := range []struct {
		l, box  string
		degrees []int
		count   int
		e       api.Errno
	}{
		{"1 14 0 0; 1 0 7 0; 1 0 0 4", "0 1, 0 1, 0 1", []int{14, 7, 4}, 600, api.OK},
		{"0 14 0 0; 0 0 7 0; 0 0 0 4", "0 0, 0 0, 0 0", []int{14, 7, 4}, 600, api.OK},
		{"1 14 0 0; 1 0 7 0; 1 0 0 4; 0 15 0 0", "0 1, 0 1, 0 1", nil, 0, api.ErrLong},
		{"1 16 0 0; 1 0 16 0; 1 0 0 16", "0 1, 0 1, 0 1", nil, 0, api.ErrLong},
		{"1 16 0; 1 0 16", "0 1, 0 1", []int{16, 16}, 289, api.OK},
	} {
		degrees, coefs, e := ranges.Coefs(terms(c.l), spans(c.box))
		a, f := ranges.Bernstein(terms(c.l), spans(c.box))
		if !slices.Equal(degrees, c.degrees) || len(coefs) != c.count || e != c.e || f != c.e || e != api.OK && show(a) != "0 0" {
			t.Errorf("%s: degrees %v, %d coefficients, errors %d, %d", c.l, degrees, len(coefs), e, f)
		}
	}
	// Each of 200 inputs has the degree 1, or 16: far too many coefficients.
	for _, n := range []int{1, 16} {
		var l []api.PfTerm
		for i := range 200 {
			pows := make([]int, 200)
			pows[i] = n
			l = append(l, api.PfTerm{Coef: "1", Pows: pows})
		}
		box := spans(strings.Repeat("0 1,", 200))
		expectCoefs(t, "200 inputs", l, box, nil, "", api.ErrLong)
		degrees := slices.Repeat([]int{0}, 200)
		degrees[7] = n
		want := strings.Repeat("0 ", n) + "1"
		expectCoefs(t, "one of 200 inputs", l[7:8], box, degrees, want, api.OK)
	}
}

// coefsModel returns Bernstein coefficients by their definition: the polynomial g in t
// has the coefficients a, and the k-th Bernstein coefficient is the sum, over all j
// from 0 to k in each input, of a(j) times C(k, j) / C(n, j).
func coefsModel(l []api.PfTerm, box []api.Span, degrees []int) []*big.Rat {
	all := [][]int{{}}
	for _, n := range degrees {
		var more [][]int
		for _, choice := range all {
			for k := range n + 1 {
				more = append(more, append(slices.Clone(choice), k))
			}
		}
		all = more
	}
	powers := map[string]*big.Rat{} // of t, by the exponents
	for _, term := range l {
		for _, j := range all {
			part := toRat(term.Coef)
			for i, n := range term.Pows {
				part = product(part, powerPart(toSpans(box[i : i+1])[0], n, j[i]))
			}
			at := fmt.Sprint(j)
			if powers[at] == nil {
				powers[at] = new(big.Rat)
			}
			powers[at] = sum(powers[at], part)
		}
	}
	var out []*big.Rat
	for _, k := range all {
		total := new(big.Rat)
		for _, j := range all {
			part := powers[fmt.Sprint(j)]
			if part == nil {
				continue
			}
			for i := range k {
				part = product(part, quotient(binomial(k[i], j[i]), binomial(degrees[i], j[i])))
			}
			total = sum(total, part)
		}
		out = append(out, total)
	}
	return out
}

// powerPart returns the coefficient of t^j in (lo + t (hi - lo))^n.
func powerPart(a span, n, j int) *big.Rat {
	if j > n {
		return new(big.Rat)
	}
	out := binomial(n, j)
	for range j {
		out = product(out, less(a.hi, a.lo))
	}
	for range n - j {
		out = product(out, a.lo)
	}
	return out
}

func binomial(n, k int) *big.Rat {
	return new(big.Rat).SetInt(new(big.Int).Binomial(int64(n), int64(k)))
}

// randomTerms returns terms of a low degree.
func randomTerms(random *rand.Rand, inputs int) []api.PfTerm {
	var l []api.PfTerm
	for range random.Intn(6) {
		x := api.PfTerm{Coef: randomNumber(random).Text(), Pows: make([]int, inputs)}
		for i := range x.Pows {
			x.Pows[i] = random.Intn(4)
		}
		l = append(l, x)
	}
	return l
}

// TestP6_6_Model compares Bernstein coefficients with their definition, and values with
// a sum in the numbers of math/big.
func TestP6_6_Model(t *testing.T) {
	random := rand.New(rand.NewSource(66))
	for range 400 {
		inputs := random.Intn(4)
		box, l := randomBox(random, inputs), randomTerms(random, inputs)
		degrees := make([]int, inputs)
		for _, x := range l {
			for i, n := range x.Pows {
				degrees[i] = max(degrees[i], n)
			}
		}
		var want []string
		for _, x := range coefsModel(l, box, degrees) {
			want = append(want, toText(x))
		}
		expectCoefs(t, fmt.Sprint(l, " over ", box), l, box, degrees, strings.Join(want, " "), api.OK)
		var point []exact.Num
		total := new(big.Rat)
		for range inputs {
			point = append(point, randomNumber(random))
		}
		for _, x := range l {
			part := toRat(x.Coef)
			for i, n := range x.Pows {
				for range n {
					part = product(part, toRat(point[i].Text()))
				}
			}
			total = sum(total, part)
		}
		if x, e := ranges.At(l, point); string(x.Text()) != toText(total) || e != api.OK {
			t.Errorf("%v at %s: %s, error %d, want %s", l, texts(point), x.Text(), e, toText(total))
		}
		if t.Failed() {
			return
		}
	}
}

// TestP6_11_Bernstein: values are in the interval of the coefficients, those at corners
// are coefficients; those over a half are within.
func TestP6_11_Bernstein(t *testing.T) {
	random := rand.New(rand.NewSource(611))
	for range 1000 {
		inputs := 1 + random.Intn(3)
		box, l := randomBox(random, inputs), randomTerms(random, inputs)
		degrees, coefs, e := ranges.Coefs(l, box)
		a, f := ranges.Bernstein(l, box)
		if e != api.OK || f != api.OK {
			t.Fatalf("errors %d, %d", e, f)
		}
		for range 5 {
			var at []exact.Num
			for _, x := range randomPoint(random, box) {
				at = append(at, number(t, x))
			}
			if x, e := ranges.At(l, at); !a.Has(x) || e != api.OK {
				t.Fatalf("%v over %v: %s at %s, not in %s", l, box, x.Text(), texts(at), show(a))
			}
		}
		for corner := range 1 << inputs {
			place := 0
			var at []exact.Num
			for i, s := range box {
				place *= degrees[i] + 1
				if corner>>i&1 == 0 {
					at = append(at, number(t, s.Lo))
				} else {
					at = append(at, number(t, s.Hi))
					place += degrees[i]
				}
			}
			if x, _ := ranges.At(l, at); x.Cmp(coefs[place]) != 0 {
				t.Fatalf("%v over %v: %s at %s, but the coefficient %s", l, box, x.Text(), texts(at), coefs[place].Text())
			}
		}
		i, e := ranges.Widest(box)
		if e != api.OK {
			continue
		}
		middle := toSpans(box)[i].mid()
		lower, upper, e := ranges.Split(box, i, api.Rat(toText(middle)))
		if e != api.OK {
			t.Fatalf("Split: error %d", e)
		}
		for _, part := range [][]api.Span{lower, upper} {
			if b, e := ranges.Bernstein(l, part); !a.Has(b.Lo()) || !a.Has(b.Hi()) || e != api.OK {
				t.Fatalf("%v over %v: %s, not within %s", l, part, show(b), show(a))
			}
		}
	}
}

// TestP6_6_Long: ends and coefficients with as many digits as they may have.
func TestP6_6_Long(t *testing.T) {
	a, b := digits(2000), "1/"+toText(twoTo(6643))
	box := spans("-" + b + " " + a)
	l := terms(a + " 3; 1/3 0")
	var want []string
	for _, x := range coefsModel(l, box, []int{3}) {
		want = append(want, toText(x))
	}
	_, coefs, e := ranges.Coefs(l, box)
	if texts(coefs) != strings.Join(want, " ") || e != api.OK {
		t.Errorf("error %d, and other coefficients", e)
	}
}
