package exact_test

import (
	"math"
	"testing"

	"vernier/api"
	"vernier/exact"
)

// TestP1_NoPanic: calls with arguments of all kinds come to an end, and with an
// error the number is 0.
func TestP1_NoPanic(t *testing.T) {
	integers := []int{math.MinInt, -20001, -20000, -65, -64, -1, 0, 1, 2, 63, 64, 65, 4000, 4001, 20000, 20001, math.MaxInt}
	expect := func(what string) func(exact.Num, api.Errno) {
		return func(x exact.Num, e api.Errno) {
			t.Helper()
			if e != api.OK && (x.Sign() != 0 || x.Text() != "0") {
				t.Errorf("%s: error %d with %.40s", what, e, x.Text())
			}
		}
	}
	list := []exact.Num{{}, exact.Int(math.MinInt64), exact.Int(-1), num(t, "-5/3"), num(t, "7/12"), must(t)(exact.Two(-20000)), num(t, nines2000)}
	for _, n := range integers {
		expect("Two")(exact.Two(n))
		expect("Ratio")(exact.Ratio(int64(n), int64(-n)))
		for _, x := range list {
			expect("Power")(x.Power(n))
			expect("Shift")(x.Shift(n))
			expect("RootDown")(x.RootDown(n))
			expect("RootUp")(x.RootUp(n))
			x.Down(n)
			x.Up(n)
		}
	}
	for _, text := range []string{"", "-", "/", "//", "-/-", "\x00", "\xff\xfe/", "1/\xff", "9/0", nines2001 + "/" + nines2001 + "/"} {
		expect("Parse")(exact.Parse(api.Rat(text)))
	}
}

// TestP1_ErrorOrder: of several errors the one that is named first.
func TestP1_ErrorOrder(t *testing.T) {
	expectError(t, "Power of 0 beyond the limit", api.ErrRange)((exact.Num{}).Power(-65))
	expectError(t, "Shift of 0 beyond the limit", api.ErrRange)((exact.Num{}).Shift(20001))
	expectError(t, "a bad form of a long text", api.ErrForm)(exact.Parse(api.Rat(nines2001 + "/1")))
	expectError(t, "a long text with a common divisor", api.ErrLong)(exact.Parse(api.Rat(evens2001 + "/" + evens2001)))
	if n, e := num(t, nines2000).Mul(num(t, "1/7")).Int64(); n != 0 || e != api.ErrForm {
		t.Errorf("Int64 of a great number that is no integer: %d, error %d", n, e)
	}
}

// TestP1_ValuesNeverChange: no method changes its number or its argument.
func TestP1_ValuesNeverChange(t *testing.T) {
	list := samples(t)
	var texts []api.Rat
	for _, x := range list {
		texts = append(texts, x.Text())
	}
	for i, x := range list {
		y := list[(i+5)%len(list)]
		for _, z := range []exact.Num{x.Add(y), x.Sub(y), x.Mul(y), x.Neg(), x.Abs(), x.Min(y), x.Max(y), x.Floor(), x.Ceil(), x.Down(7), x.Up(70)} {
			z.Add(x)
			z.Mul(y)
			z.Down(3)
		}
		x.Quo(y)
		x.Power(-3)
		x.Shift(67)
		x.Parts()
		x.Digits()
		x.Root()
		x.Abs().RootDown(100)
		x.Abs().RootUp(100)
		exact.Simple(x.Min(y), x.Max(y))
	}
	for i, x := range list {
		if x.Text() != texts[i] {
			t.Errorf("%.40s has become %.40s", texts[i], x.Text())
		}
	}
}
