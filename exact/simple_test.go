package exact_test

import (
	"math/big"
	"testing"

	"vernier/api"
	"vernier/exact"
)

// TestP1_8_Examples: the examples of the chapter, and others.
func TestP1_8_Examples(t *testing.T) {
	for _, c := range []struct{ lo, hi, want string }{
		{"3/10", "2/5", "1/3"}, {"-1/2", "1/3", "0"}, {"7/3", "7/3", "7/3"}, {"5/2", "9/2", "3"},
		{"-9/2", "-5/2", "-3"}, {"157/50", "63/20", "22/7"}, {"-63/20", "-157/50", "-22/7"}, {"0", "5", "0"}, {"-5", "0", "0"}, {"0", "0", "0"},
		{"2", "5", "2"}, {"-5", "-2", "-2"}, {"1/2", "1", "1"}, {"1/4", "1/3", "1/3"}, {"-7", "-7", "-7"}, {"2/5", "3/7", "2/5"},
		{"1/18446744073709551617", "1/18446744073709551616", "1/18446744073709551616"},
	} {
		expectText(t, "Simple of "+c.lo+" and "+c.hi, must(t)(exact.Simple(num(t, c.lo), num(t, c.hi))), c.want)
	}
	expectError(t, "Simple of 1 and 0", api.ErrRange)(exact.Simple(exact.Int(1), exact.Int(0)))
	expectError(t, "Simple of -1/3 and -1/2", api.ErrRange)(exact.Simple(num(t, "-1/3"), num(t, "-1/2")))
}

// TestP1_8_Search: compared with all numbers of the denominators up to 9.
func TestP1_8_Search(t *testing.T) {
	list := smallFractions(t, 2, 9)
	bottoms := make([]exact.Num, len(list))
	for i, x := range list {
		_, bottoms[i] = x.Parts()
	}
	for _, lo := range list {
		for _, hi := range list {
			if lo.Cmp(hi) > 0 {
				expectError(t, "Simple", api.ErrRange)(exact.Simple(lo, hi))
				continue
			}
			best := -1
			for i, x := range list {
				if x.Cmp(lo) < 0 || x.Cmp(hi) > 0 {
					continue
				}
				order := -1
				if best >= 0 {
					order = bottoms[i].Cmp(bottoms[best])
				}
				if order < 0 || order == 0 && x.Abs().Cmp(list[best].Abs()) < 0 {
					best = i
				}
			}
			got := must(t)(exact.Simple(lo, hi))
			expectText(t, "Simple of "+string(lo.Text())+" and "+string(hi.Text()), got, string(list[best].Text()))
		}
	}
}

// TestP1_14_Simplest: no number between has a lesser denominator.
func TestP1_14_Simplest(t *testing.T) {
	list := samples(t)
	for _, lo := range list {
		for _, hi := range list {
			if lo.Cmp(hi) <= 0 {
				checkSimplest(t, lo, hi)
			}
		}
		for _, k := range []int{-9000, -200, -64, -3, 0} {
			checkSimplest(t, lo, lo.Add(must(t)(exact.Two(k))))
			checkSimplest(t, lo.Sub(must(t)(exact.Two(k)).Mul(num(t, "1/3"))), lo)
		}
		expectText(t, "Simple of one number", must(t)(exact.Simple(lo, lo)), string(lo.Text()))
	}
}

// checkSimplest checks that Simple is between lo and hi, and that both numbers
// from whose neighbourhood it comes (of all between these two it has the least
// denominator) are not.
func checkSimplest(t *testing.T, lo, hi exact.Num) {
	t.Helper()
	got := must(t)(exact.Simple(lo, hi))
	if got.Cmp(lo) < 0 || got.Cmp(hi) > 0 {
		t.Errorf("Simple of %.40s and %.40s: %.40s is not between", lo.Text(), hi.Text(), got.Text())
		return
	}
	x := toBig(t, got)
	if x.IsInt() {
		nearer := got.Abs().Sub(exact.Int(1)) // the integer that is next to it, towards 0
		if got.Sign() < 0 {
			nearer = nearer.Neg()
		}
		if got.Sign() != 0 && nearer.Cmp(lo) >= 0 && nearer.Cmp(hi) <= 0 {
			t.Errorf("Simple of %.40s and %.40s: %.40s is less in size", lo.Text(), hi.Text(), nearer.Text())
		}
		return
	}
	p, q := x.Num(), x.Denom()
	b := new(big.Int).ModInverse(p, q) // p b - q a is 1: a / b is the neighbour below
	a := new(big.Int).Mul(p, b)
	a.Sub(a, big.NewInt(1)).Quo(a, q)
	below := new(big.Rat).SetFrac(a, b)
	above := new(big.Rat).SetFrac(new(big.Int).Sub(p, a), new(big.Int).Sub(q, b))
	if below.Cmp(toBig(t, lo)) >= 0 || above.Cmp(toBig(t, hi)) <= 0 {
		t.Errorf("Simple of %.40s and %.40s: %.40s is not the simplest", lo.Text(), hi.Text(), got.Text())
	}
}
