package ranges_test

import (
	"fmt"
	"math/rand"
	"testing"

	"vernier/api"
	"vernier/exact"
	"vernier/ranges"
)

// TestP6_1_From: intervals of numbers, and of texts.
func TestP6_1_From(t *testing.T) {
	for _, c := range []struct {
		lo, hi api.Rat
		e      api.Errno
	}{
		{"0", "0", api.OK}, {"-1/3", "-1/3", api.OK}, {"-2", "5/7", api.OK}, {"1/3", "1/4", api.ErrRange}, {"0", "-1", api.ErrRange}, {"-1", "-2", api.ErrRange},
	} {
		want := fmt.Sprint(c.lo, " ", c.hi)
		expect(t, "From "+want, want, c.e)(ranges.From(number(t, c.lo), number(t, c.hi)))
		expect(t, "Of "+want, want, c.e)(ranges.Of(api.Span{Lo: c.lo, Hi: c.hi}))
	}
	long := api.Rat(digits(2001))
	for _, c := range []struct {
		lo, hi api.Rat
		e      api.Errno
	}{
		{"", "1", api.ErrForm}, {"1", "", api.ErrForm}, {"2/4", "0", api.ErrForm}, {"2", "+1", api.ErrForm}, {long, "x", api.ErrLong},
		{"x", long, api.ErrForm}, {"2", long, api.ErrLong}, {"-" + long, "0", api.ErrLong},
	} {
		expect(t, "Of", "", c.e)(ranges.Of(api.Span{Lo: c.lo, Hi: c.hi}))
	}
	var zero ranges.Interval
	if show(zero) != "0 0" || zero.Span() != (api.Span{Lo: "0", Hi: "0"}) || !zero.Has(exact.Num{}) {
		t.Errorf("the zero value: %s", show(zero))
	}
}

// TestP6_1_Span: the texts of ends, however long.
func TestP6_1_Span(t *testing.T) {
	if s := interval(t, "-1/3 7").Span(); s != (api.Span{Lo: "-1/3", Hi: "7"}) {
		t.Errorf("%v", s)
	}
	x := number(t, api.Rat(digits(2000)))
	a, _ := ranges.From(x.Neg(), x.Mul(x).Mul(x))
	if s := a.Span(); s.Lo != api.Rat("-"+digits(2000)) || s.Hi != api.Rat(digits(5998)) {
		t.Errorf("%.60v", s)
	}
}

// TestP6_1_One: what is made of one interval.
func TestP6_1_One(t *testing.T) {
	for _, c := range []struct{ a, neg, abs, size, near string }{
		{"0 0", "0 0", "0 0", "0", "0"},
		{"1/3 2", "-2 -1/3", "1/3 2", "2", "1/3"},
		{"-2 -1/3", "1/3 2", "1/3 2", "2", "1/3"},
		{"-2 1/3", "-1/3 2", "0 2", "2", "0"},
		{"-1/3 2", "-2 1/3", "0 2", "2", "0"},
		{"0 3", "-3 0", "0 3", "3", "0"},
		{"-3 0", "0 3", "0 3", "3", "0"},
		{"5/7 5/7", "-5/7 -5/7", "5/7 5/7", "5/7", "5/7"},
	} {
		a := interval(t, c.a)
		if show(a.Neg()) != c.neg || show(a.Abs()) != c.abs || string(a.Size().Text()) != c.size || string(a.Near().Text()) != c.near {
			t.Errorf("%s: Neg %s, Abs %s, Size %s, Near %s", c.a, show(a.Neg()), show(a.Abs()), a.Size().Text(), a.Near().Text())
		}
	}
}

// TestP6_1_Two: what is made of two intervals.
func TestP6_1_Two(t *testing.T) {
	for _, c := range []struct{ a, b, add, sub, mul, quo, join, meet string }{
		{"1 2", "3 5", "4 7", "-4 -1", "3 10", "1/5 2/3", "1 5", ""},
		{"1 2", "-5 -3", "-4 -1", "4 7", "-10 -3", "-2/3 -1/5", "-5 2", ""},
		{"-2 -1", "3 5", "1 4", "-7 -4", "-10 -3", "-2/3 -1/5", "-2 5", ""},
		{"-2 -1", "-5 -3", "-7 -4", "1 4", "3 10", "1/5 2/3", "-5 -1", ""},
		{"-1 2", "3 5", "2 7", "-6 -1", "-5 10", "-1/3 2/3", "-1 5", ""},
		{"-1 2", "-5 -3", "-6 -1", "2 7", "-10 5", "-2/3 1/3", "-5 2", ""},
		{"0 2", "3 5", "3 7", "-5 -1", "0 10", "0 2/3", "0 5", ""},
		{"-2 0", "3 5", "1 5", "-7 -3", "-10 0", "-2/3 0", "-2 5", ""},
		{"1 2", "0 5", "1 7", "-4 2", "0 10", "zero", "0 5", "1 2"},
		{"1 2", "-5 0", "-4 2", "1 7", "-10 0", "zero", "-5 2", ""},
		{"1 2", "-1 3", "0 5", "-2 3", "-2 6", "zero", "-1 3", "1 2"},
		{"-2 3", "-5 7", "-7 10", "-9 8", "-15 21", "zero", "-5 7", "-2 3"},
		{"-2 3", "-7 5", "-9 8", "-7 10", "-21 15", "zero", "-7 5", "-2 3"},
		{"-3 2", "-5 7", "-8 9", "-10 7", "-21 15", "zero", "-5 7", "-3 2"},
		{"1 2", "2 3", "3 5", "-2 0", "2 6", "1/3 1", "1 3", "2 2"},
		{"0 0", "0 0", "0 0", "0 0", "0 0", "zero", "0 0", "0 0"},
		{"0 0", "1/7 2", "1/7 2", "-2 -1/7", "0 0", "0 0", "0 2", ""},
		{"1/3 1/2", "1/4 2/5", "7/12 9/10", "-1/15 1/4", "1/12 1/5", "5/6 2", "1/4 1/2", "1/3 2/5"},
	} {
		a, b := interval(t, c.a), interval(t, c.b)
		what := c.a + " and " + c.b + ", "
		expect(t, what+"Add", c.add, api.OK)(a.Add(b), api.OK)
		expect(t, what+"Sub", c.sub, api.OK)(a.Sub(b), api.OK)
		expect(t, what+"Mul", c.mul, api.OK)(a.Mul(b), api.OK)
		expect(t, what+"Mul", c.mul, api.OK)(b.Mul(a), api.OK)
		if c.quo == "zero" {
			expect(t, what+"Quo", "", api.ErrZero)(a.Quo(b))
		} else {
			expect(t, what+"Quo", c.quo, api.OK)(a.Quo(b))
		}
		expect(t, what+"Join", c.join, api.OK)(a.Join(b), api.OK)
		expect(t, what+"Join", c.join, api.OK)(b.Join(a), api.OK)
		want := c.meet
		if want == "" {
			want = "0 0"
		}
		if x, is := a.Meet(b); show(x) != want || is != (c.meet != "") {
			t.Errorf("%sMeet: %s, %v, want %s", what, show(x), is, c.meet)
		}
	}
}

// TestP6_1_Has: the ends are in the interval.
func TestP6_1_Has(t *testing.T) {
	a := interval(t, "-1/3 5/2")
	for text, want := range map[string]bool{"-1/3": true, "0": true, "5/2": true, "1": true, "-1/2": false, "-1000001/3000000": false, "3": false, "7500001/3000000": false} {
		if a.Has(number(t, api.Rat(text))) != want {
			t.Errorf("Has of %s is not %v", text, want)
		}
	}
}

// TestP6_1_Bits: roots, and ends rounded outward, to some bits.
func TestP6_1_Bits(t *testing.T) {
	for _, c := range []struct {
		a    string
		bits int
		sqrt string
		out  string
	}{
		{"0 0", 5, "0 0", "0 0"},
		{"1/3 2/3", 3, "1/2 7/8", "5/16 3/4"},
		{"9/4 4", 2, "3/2 2", "2 4"},
		{"2 2", 4, "11/8 3/2", "2 2"},
		{"0 5", 1, "0 4", "0 8"},
		{"0 5", 0, "0 4", "0 8"},
		{"0 5", -7, "0 4", "0 8"},
		{"7 9", 3, "5/2 3", "7 10"},
	} {
		a := interval(t, c.a)
		expect(t, c.a+" Sqrt", c.sqrt, api.OK)(a.Sqrt(c.bits))
		expect(t, c.a+" Out", c.out, api.OK)(a.Out(c.bits), api.OK)
	}
	expect(t, "below 0, Out", "-7/16 -5/16", api.OK)(interval(t, "-2/5 -1/3").Out(3), api.OK)
	for _, text := range []string{"-1 4", "-4 -1", "-1/1000000000000 0"} {
		expect(t, text, "", api.ErrDomain)(interval(t, text).Sqrt(10))
	}
	// More than 4000 bits are 4000 bits.
	a := interval(t, "1/3 2")
	most, _ := a.Sqrt(4000)
	more, _ := a.Sqrt(1 << 40)
	if show(most) != show(more) || show(a.Out(4000)) != show(a.Out(4001)) || show(a.Out(4000)) == show(a.Out(3990)) {
		t.Errorf("bits above 4000 make a difference")
	}
}

// TestP6_7_Inclusion: what is made of numbers is in what is made of their intervals,
// whose ends are such results.
func TestP6_7_Inclusion(t *testing.T) {
	random := rand.New(rand.NewSource(67))
	within := func(a ranges.Interval) exact.Num {
		part, _ := exact.Ratio(int64(random.Intn(8)), 7)
		return a.Lo().Add(a.Hi().Sub(a.Lo()).Mul(part))
	}
	some := func() ranges.Interval {
		x, y := randomNumber(random), randomNumber(random)
		a, _ := ranges.From(x.Min(y), x.Max(y))
		return a
	}
	quotients := 0
	for range 20000 {
		a, b := some(), some()
		x, y := within(a), within(b)
		check := func(what string, c ranges.Interval, of func(x, y exact.Num) exact.Num) {
			if !c.Has(of(x, y)) {
				t.Fatalf("%s of %s and %s is not in that of %s and %s", what, x.Text(), y.Text(), show(a), show(b))
			}
			for _, end := range []exact.Num{c.Lo(), c.Hi()} {
				is := false
				for _, x := range []exact.Num{a.Lo(), a.Hi()} {
					for _, y := range []exact.Num{b.Lo(), b.Hi()} {
						is = is || of(x, y).Cmp(end) == 0
					}
				}
				if !is {
					t.Fatalf("%s of %s and %s: %s is no result", what, show(a), show(b), end.Text())
				}
			}
		}
		check("Add", a.Add(b), exact.Num.Add)
		check("Sub", a.Sub(b), exact.Num.Sub)
		check("Mul", a.Mul(b), exact.Num.Mul)
		c, e := a.Quo(b)
		if has := b.Has(exact.Num{}); has != (e == api.ErrZero) || !has && e != api.OK {
			t.Fatalf("Quo of %s and %s: error %d", show(a), show(b), e)
		}
		if e == api.OK {
			quotients++
			check("Quo", c, func(x, y exact.Num) exact.Num {
				z, _ := x.Quo(y)
				return z
			})
		}
		if !a.Abs().Has(x.Abs()) || !a.Neg().Has(x.Neg()) || x.Abs().Cmp(a.Size()) > 0 || x.Abs().Cmp(a.Near()) < 0 {
			t.Fatalf("%s in %s", x.Text(), show(a))
		}
	}
	if quotients < 5000 {
		t.Errorf("only %d quotients", quotients)
	}
}
