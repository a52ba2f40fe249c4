package exact_test

import (
	"math"
	"math/big"
	"testing"

	"vernier/api"
	"vernier/exact"
)

// TestP1_3_Parts: the numerator and the denominator, and powers of two in them.
func TestP1_3_Parts(t *testing.T) {
	for _, x := range samples(t) {
		want := toBig(t, x)
		top, bottom := x.Parts()
		expectText(t, "the numerator", top, want.Num().String())
		expectText(t, "the denominator", bottom, want.Denom().String())
		twos := 0
		if want.Sign() != 0 {
			twos = int(want.Num().TrailingZeroBits()) - int(want.Denom().TrailingZeroBits())
		}
		if x.Twos() != twos {
			t.Errorf("Twos(%.40s): %d, want %d", x.Text(), x.Twos(), twos)
		}
	}
	for s, want := range map[string]int{"12": 2, "3/8": -3, "5/6": -1, "0": 0, "7/3": 0, "-40": 3} {
		if got := num(t, s).Twos(); got != want {
			t.Errorf("Twos(%s): %d, want %d", s, got, want)
		}
	}
}

// TestP1_3_Order: signs, comparisons, negatives, sizes, the lesser, the greater.
func TestP1_3_Order(t *testing.T) {
	list := samples(t)
	for _, x := range list {
		a := toBig(t, x)
		if x.Sign() != a.Sign() {
			t.Errorf("Sign(%.40s): %d", x.Text(), x.Sign())
		}
		expectBig(t, "Neg", x.Neg(), new(big.Rat).Neg(a))
		expectBig(t, "Abs", x.Abs(), new(big.Rat).Abs(a))
		for _, y := range list {
			b := toBig(t, y)
			if got := x.Cmp(y); got != a.Cmp(b) {
				t.Errorf("Cmp(%.40s, %.40s): %d", x.Text(), y.Text(), got)
			}
			least, greatest := a, b
			if a.Cmp(b) > 0 {
				least, greatest = b, a
			}
			expectBig(t, "Min", x.Min(y), least)
			expectBig(t, "Max", x.Max(y), greatest)
		}
	}
}

// TestP1_3_CloseNumbers: a difference in the last place is seen.
func TestP1_3_CloseNumbers(t *testing.T) {
	for _, x := range samples(t) {
		for _, k := range []int{-9000, -64, 0, 300} {
			little := must(t)(exact.Two(k))
			if x.Cmp(x.Add(little)) != -1 || x.Cmp(x.Sub(little)) != 1 || x.Add(little).Cmp(x) != 1 {
				t.Errorf("%.40s is not told from its neighbours by 2^%d", x.Text(), k)
			}
		}
	}
}

// TestP1_4_Operations: sums, differences, products and quotients.
func TestP1_4_Operations(t *testing.T) {
	list := samples(t)
	for _, x := range list {
		for _, y := range list {
			a, b := toBig(t, x), toBig(t, y)
			expectBig(t, "Add", x.Add(y), new(big.Rat).Add(a, b))
			expectBig(t, "Sub", x.Sub(y), new(big.Rat).Sub(a, b))
			expectBig(t, "Mul", x.Mul(y), new(big.Rat).Mul(a, b))
			if b.Sign() == 0 {
				expectError(t, "Quo", api.ErrZero)(x.Quo(y))
				continue
			}
			expectBig(t, "Quo", must(t)(x.Quo(y)), new(big.Rat).Quo(a, b))
		}
	}
}

// TestP1_4_SmallOperations: all pairs of small fractions, many with common
// divisors across.
func TestP1_4_SmallOperations(t *testing.T) {
	list := smallFractions(t, 2, 12)
	for _, x := range list {
		for _, y := range list {
			a, b := toBig(t, x), toBig(t, y)
			expectBig(t, "Add", x.Add(y), new(big.Rat).Add(a, b))
			expectBig(t, "Mul", x.Mul(y), new(big.Rat).Mul(a, b))
		}
	}
}

func TestP1_4_Examples(t *testing.T) {
	third := num(t, "1/3")
	expectText(t, "1/3 plus 1/6", third.Add(num(t, "1/6")), "1/2")
	expectText(t, "1/3 less 1/2", third.Sub(num(t, "1/2")), "-1/6")
	expectText(t, "2/3 times 9/4", num(t, "2/3").Mul(num(t, "9/4")), "3/2")
	expectError(t, "2/3 divided by 0", api.ErrZero)(num(t, "2/3").Quo(exact.Num{}))
	expectText(t, "2/3 with -2", must(t)(num(t, "2/3").Power(-2)), "9/4")
}

// TestP1_4_Power: exponents of both signs, 0, and those beyond the limit.
func TestP1_4_Power(t *testing.T) {
	for _, s := range []string{"0", "1", "-1", "2", "-2", "2/3", "-3/8", "1/4", "12", "12345678901234567890/7"} {
		x := num(t, s)
		a := toBig(t, x)
		want := new(big.Rat).SetInt64(1)
		for n := range 65 {
			expectBig(t, "Power", must(t)(x.Power(n)), want)
			switch {
			case n == 0:
			case a.Sign() == 0:
				expectError(t, "Power of 0", api.ErrZero)(x.Power(-n))
			default:
				expectBig(t, "Power", must(t)(x.Power(-n)), new(big.Rat).Inv(want))
			}
			want.Mul(want, a)
		}
		for _, n := range []int{65, -65, math.MaxInt, math.MinInt} {
			expectError(t, "Power", api.ErrRange)(x.Power(n))
		}
	}
}

// TestP1_4_Shift: powers of two of both signs, and those beyond the limit.
func TestP1_4_Shift(t *testing.T) {
	for _, x := range samples(t) {
		for _, k := range []int{0, 1, -1, 64, -64, 777, 20000, -20000} {
			power := new(big.Rat).SetInt(new(big.Int).Lsh(big.NewInt(1), uint(max(k, -k))))
			if k < 0 {
				power.Inv(power)
			}
			expectBig(t, "Shift", must(t)(x.Shift(k)), power.Mul(power, toBig(t, x)))
		}
		for _, k := range []int{20001, -20001, math.MaxInt, math.MinInt} {
			expectError(t, "Shift", api.ErrRange)(x.Shift(k))
		}
	}
}

// TestP1_9_Field: the laws of a field.
func TestP1_9_Field(t *testing.T) {
	list := samples(t)[:60]
	zero, one := exact.Num{}, exact.Int(1)
	same := func(law string, x, y exact.Num) {
		t.Helper()
		if x.Cmp(y) != 0 || x.Text() != y.Text() {
			t.Errorf("%s: %.40s and %.40s", law, x.Text(), y.Text())
		}
	}
	for i, x := range list {
		same("0 is neutral", x.Add(zero), x)
		same("1 is neutral", x.Mul(one), x)
		for j, y := range list {
			z := list[(i*7+j*3)%len(list)]
			same("sums commute", x.Add(y), y.Add(x))
			same("products commute", x.Mul(y), y.Mul(x))
			same("sums associate", x.Add(y).Add(z), x.Add(y.Add(z)))
			same("products associate", x.Mul(y).Mul(z), x.Mul(y.Mul(z)))
			same("products distribute", x.Mul(y.Add(z)), x.Mul(y).Add(x.Mul(z)))
			same("Sub undoes Add", x.Add(y).Sub(y), x)
			if y.Sign() != 0 {
				same("Quo undoes Mul", must(t)(x.Mul(y).Quo(y)), x)
			}
		}
	}
}

// TestP1_10_Order: the laws of an order.
func TestP1_10_Order(t *testing.T) {
	list := samples(t)[:60]
	for i, x := range list {
		for j, y := range list {
			order := x.Cmp(y)
			if order < -1 || order > 1 || order != -y.Cmp(x) || (i == j) != (order == 0) {
				t.Errorf("Cmp(%.40s, %.40s): %d", x.Text(), y.Text(), order)
			}
			z := list[(i*5+j*11)%len(list)]
			if order <= 0 && y.Cmp(z) <= 0 && x.Cmp(z) > 0 {
				t.Errorf("not transitive: %.40s, %.40s, %.40s", x.Text(), y.Text(), z.Text())
			}
			if x.Add(z).Cmp(y.Add(z)) != order {
				t.Errorf("not kept by adding %.40s: %.40s, %.40s", z.Text(), x.Text(), y.Text())
			}
			if z.Sign() > 0 && x.Mul(z).Cmp(y.Mul(z)) != order {
				t.Errorf("not kept by multiplying by %.40s: %.40s, %.40s", z.Text(), x.Text(), y.Text())
			}
		}
	}
}
