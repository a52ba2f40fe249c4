package reals

import (
	"testing"

	"vernier/api"
	"vernier/exact"
)

func power(k int) exact.Num {
	x, _ := exact.Two(k)
	return x
}

// TestSpanTimes: the products of all pairs of ends lie in the product of spans, and
// two of them are its ends.
func TestSpanTimes(t *testing.T) {
	for lo := int64(-3); lo <= 3; lo++ {
		for hi := lo; hi <= 3; hi++ {
			for least := int64(0); least <= 3; least++ {
				for greatest := least; greatest <= 3; greatest++ {
					got := span{exact.Int(lo), exact.Int(hi)}.times(span{exact.Int(least), exact.Int(greatest)})
					wantLo := min(lo*least, lo*greatest, hi*least, hi*greatest)
					wantHi := max(lo*least, lo*greatest, hi*least, hi*greatest)
					if got.lo.Cmp(exact.Int(wantLo)) != 0 || got.hi.Cmp(exact.Int(wantHi)) != 0 {
						t.Errorf("%d to %d times %d to %d: %s to %s", lo, hi, least, greatest, got.lo.Text(), got.hi.Text())
					}
				}
			}
		}
	}
}

// TestRounded: ends are rounded outward to any number of bits, and no farther than
// to the next number.
func TestRounded(t *testing.T) {
	third, _ := exact.Ratio(1, 3)
	for _, x := range []exact.Num{third, third.Neg(), exact.Int(7).Mul(power(-20000)), third.Mul(power(20000)).Mul(power(20000)), {}, exact.Int(-1)} {
		for _, bits := range []int{1, 2, 64, api.MaxBits, api.MaxBits + 1, 2 * api.MaxBits, 70000} {
			got := span{x, x}.rounded(bits)
			k, _ := x.Log()
			if got.lo.Cmp(x) > 0 || got.hi.Cmp(x) < 0 || got.hi.Sub(got.lo).Cmp(shifted(exact.Int(1), k-bits+1)) > 0 {
				t.Errorf("%.50s to %d bits: not from below to above, or too far", x.Text(), bits)
			}
			if bits <= api.MaxBits && (got.lo.Cmp(x.Down(bits)) != 0 || got.hi.Cmp(x.Up(bits)) != 0) {
				t.Errorf("%.50s to %d bits: not as package exact", x.Text(), bits)
			}
		}
	}
}

// TestRoots: roots are enclosed with any number of bits, all of which but a few are
// right.
func TestRoots(t *testing.T) {
	third, _ := exact.Ratio(1, 3)
	for _, x := range []exact.Num{{}, exact.Int(1), exact.Int(2), third, third.Mul(power(-20000)), exact.Int(5).Mul(power(20000)), exact.Int(9)} {
		for _, bits := range []int{1, 64, api.MaxBits, api.MaxBits + 1, 3 * api.MaxBits, 40000} {
			got := span{x, x}.root(bits)
			if got.lo.Sign() < 0 || got.lo.Mul(got.lo).Cmp(x) > 0 || got.hi.Mul(got.hi).Cmp(x) < 0 {
				t.Errorf("the root of %.50s with %d bits: not from below to above", x.Text(), bits)
			}
			if k, _ := got.hi.Log(); got.hi.Sub(got.lo).Cmp(shifted(exact.Int(1), k-bits+4)) > 0 {
				t.Errorf("the root of %.50s with %d bits: too far", x.Text(), bits)
			}
		}
	}
	below := span{exact.Int(-5), exact.Int(4)}.root(64)
	if below.lo.Sign() != 0 || below.hi.Cmp(exact.Int(2)) != 0 {
		t.Errorf("the root of -5 to 4: %s to %s", below.lo.Text(), below.hi.Text())
	}
}
