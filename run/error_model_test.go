package run_test

import (
	"math/big"
	"testing"

	"vernier/api"
	"vernier/exact"
	"vernier/run"
)

// gap returns the error of the input: exactly, or nil, and then as a number with
// many bits.
func (m *runsModel) gap() (*big.Rat, *big.Float) {
	last := m.times[len(m.times)-1]
	if last.real.plain != nil {
		size := new(big.Rat).Sub(last.float, last.real.plain)
		return size.Abs(size), nil
	}
	size := new(big.Float).SetPrec(modelBits).SetRat(last.float)
	size.Sub(size, last.real.x)
	return nil, size.Abs(size)
}

// compareGap returns the sign of the error of the input less a number.
func (m *runsModel) compareGap(x *big.Rat) int {
	plain, size := m.gap()
	if plain != nil {
		return plain.Cmp(x)
	}
	return signOf(size.Sub(size, new(big.Float).SetPrec(modelBits).SetRat(x)))
}

// compareErrors checks what Error and Within tell for one input.
func compareErrors(t *testing.T, m *runsModel, in []api.Rat) {
	t.Helper()
	end := m.floatEnd
	if end.Kind == 0 {
		end = m.realEnd
	}
	for _, bits := range []int{0, 1, 9, 60, 700, 2000} {
		lo, hi, f, e := run.Error(m.p, in, m.steps, bits)
		if f != end || e != api.OK {
			t.Errorf("Error: fault %v, error %d, want %v", f, e, end)
		}
		if end.Kind != 0 {
			if lo.Sign() != 0 || hi.Sign() != 0 {
				t.Errorf("Error: %s, %s with a fault", lo.Text(), hi.Text())
			}
			continue
		}
		low, high := toRat(lo.Text()), toRat(hi.Text())
		width := new(big.Rat).Sub(high, low)
		atLow, atHigh := m.compareGap(low), m.compareGap(high)
		scaled := new(big.Rat).Mul(low, twoTo(bits))
		switch {
		case atLow < 0 || atHigh > 0 || !scaled.IsInt():
			t.Errorf("Error with %d bits: from %s to %s", bits, lo.Text(), hi.Text())
		case (atLow == 0) != (width.Sign() == 0) || atLow > 0 && width.Cmp(twoTo(-bits)) != 0:
			t.Errorf("Error with %d bits: from %s to %s", bits, lo.Text(), hi.Text())
		}
		checkWithin(t, m, in, lo, atLow == 0)
		checkWithin(t, m, in, hi, true)
		checkWithin(t, m, in, hi.Neg(), hi.Sign() == 0)
	}
	if end.Kind != 0 {
		if is, f, e := run.Within(m.p, in, m.steps, exact.Int(9)); is || f != end || e != api.OK {
			t.Errorf("Within: %v, fault %v, error %d, want %v", is, f, e, end)
		}
	}
}

func checkWithin(t *testing.T, m *runsModel, in []api.Rat, bound exact.Num, want bool) {
	t.Helper()
	if is, f, e := run.Within(m.p, in, m.steps, bound); is != want || f != noFault || e != api.OK {
		t.Errorf("Within %s: %v, fault %v, error %d, want %v", bound.Text(), is, f, e, want)
	}
}
