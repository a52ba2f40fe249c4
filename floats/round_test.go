package floats_test

import (
	"math"
	"math/big"
	"math/rand"
	"testing"

	"vernier/api"
	"vernier/exact"
	"vernier/floats"
)

// TestP2_3_RoundSmall: numbers everywhere among the values of small formats and
// beyond them, in every mode.
func TestP2_3_RoundSmall(t *testing.T) {
	for _, f := range smallFormats {
		for _, x := range gridAround(t, f) {
			checkRound(t, f, x, toBig(t, x))
		}
	}
}

// checkRound checks Round and Near in every mode.
func checkRound(t *testing.T, f api.Format, x exact.Num, r *big.Rat) {
	t.Helper()
	m := modelOf(f)
	for _, mode := range modes {
		want := done(m.round(mode, r))
		if got := got(floats.Round(f, mode, x)); got != want {
			t.Fatalf("Round(%v, %d, %.60s): %v, want %v", f, mode, x.Text(), got, want)
		}
		near, e := floats.Near(f, mode, x)
		checkNear(t, f, want.w, near, e)
	}
}

// checkNear checks the number for the word that is rounded to.
func checkNear(t *testing.T, f api.Format, w api.Word, near exact.Num, e api.Errno) {
	t.Helper()
	v := modelOf(f).decode(w)
	switch {
	case v.kind == api.FlInf && (e != api.ErrRange || near.Sign() != 0):
		t.Fatalf("Near for infinity: %s, error %d", near.Text(), e)
	case v.kind != api.FlInf && (e != api.OK || string(near.Text()) != textOf(v.num)):
		t.Fatalf("Near: %.60s, error %d, want %.60s", near.Text(), e, textOf(v.num))
	}
}

// TestP2_3_RoundWide: numbers at, near and between the values of wide formats.
func TestP2_3_RoundWide(t *testing.T) {
	random := rand.New(rand.NewSource(3))
	for _, f := range wideFormats {
		m := modelOf(f)
		for range 60 {
			n := bigOf(randomWord(random, f))
			neg := n.Bit(f.E+f.P-1) == 1
			n.SetBit(n, f.E+f.P-1, 0)
			if n.Cmp(m.infinity()) >= 0 {
				n = m.infinity() // where one more value would be
			}
			low, high := m.size(n), m.size(new(big.Int).Add(n, big.NewInt(1)))
			step := new(big.Rat).Sub(high, low)
			for _, part := range []*big.Rat{new(big.Rat), ratTwo(-200), big.NewRat(1, 3), big.NewRat(1, 2),
				new(big.Rat).Sub(big.NewRat(1, 2), ratTwo(-300)), new(big.Rat).Add(big.NewRat(1, 2), ratTwo(-300)), big.NewRat(6, 7)} {
				r := new(big.Rat).Mul(part, step)
				r.Add(r, low)
				if neg {
					r.Neg(r)
				}
				checkRound(t, f, fromBig(t, r), r)
			}
		}
	}
}

// TestP2_3_RoundFar: numbers far beyond what a format has, and far below it.
func TestP2_3_RoundFar(t *testing.T) {
	for _, f := range append(append([]api.Format{}, smallFormats...), wideFormats...) {
		m := modelOf(f)
		tiny, huge := num(t, "7/3"), num(t, "7/3")
		for range 50 { // 2 to the power of a million
			tiny, _ = tiny.Shift(-20000)
			huge, _ = huge.Shift(20000)
		}
		least, beyond := ratTwo(-2000), ratTwo(2000)
		for _, sign := range []int64{1, -1} {
			factor := big.NewRat(sign, 1)
			for _, mode := range modes {
				s := exact.Int(sign)
				if got, want := got(floats.Round(f, mode, tiny.Mul(s))), done(m.round(mode, new(big.Rat).Mul(least, factor))); got != want {
					t.Errorf("a tiny number, %v, mode %d: %v, want %v", f, mode, got, want)
				}
				if got, want := got(floats.Round(f, mode, huge.Mul(s))), done(m.round(mode, new(big.Rat).Mul(beyond, factor))); got != want {
					t.Errorf("a huge number, %v, mode %d: %v, want %v", f, mode, got, want)
				}
			}
		}
	}
}

// TestP2_3_RootSmall: roots of squares of values and of middles, and of numbers
// beside these.
func TestP2_3_RootSmall(t *testing.T) {
	for _, f := range smallFormats {
		for _, x := range gridAround(t, f) {
			square := x.Mul(x)
			k, _ := x.Log()
			if k < -1000 || k > 1000 { // far numbers have a test of their own
				continue
			}
			checkRoot(t, f, x.Abs())
			checkRoot(t, f, square)
			checkRoot(t, f, square.Mul(num(t, "1000000001/1000000000")))
			checkRoot(t, f, square.Mul(num(t, "999999999/1000000000")))
		}
	}
}

// checkRoot checks Root and NearRoot in every mode.
func checkRoot(t *testing.T, f api.Format, x exact.Num) {
	t.Helper()
	m := modelOf(f)
	for _, mode := range modes {
		want := done(api.Word{}, 0)
		if x.Sign() > 0 {
			want = done(m.root(mode, toBig(t, x)))
		}
		if got := got(floats.Root(f, mode, x)); got != want {
			t.Fatalf("Root(%v, %d, %.60s): %v, want %v", f, mode, x.Text(), got, want)
		}
		near, e := floats.NearRoot(f, mode, x)
		checkNear(t, f, want.w, near, e)
	}
}

// TestP2_3_RootWide: roots near values and middles of wide formats.
func TestP2_3_RootWide(t *testing.T) {
	random := rand.New(rand.NewSource(33))
	for _, f := range wideFormats {
		m := modelOf(f)
		for range 12 {
			n := bigOf(randomWord(random, f))
			n.SetBit(n, f.E+f.P-1, 0)
			if n.Cmp(m.infinity()) > 0 {
				n = m.infinity()
			}
			low := m.size(n)
			middle := new(big.Rat).Add(low, m.size(new(big.Int).Add(n, big.NewInt(1))))
			middle.Mul(middle, big.NewRat(1, 2))
			for _, r := range []*big.Rat{low, middle} {
				square := new(big.Rat).Mul(r, r)
				more := new(big.Rat).Mul(square, ratTwo(-400))
				checkRoot(t, f, fromBig(t, square))
				checkRoot(t, f, fromBig(t, new(big.Rat).Add(square, more)))
				checkRoot(t, f, fromBig(t, new(big.Rat).Sub(square, more)))
				checkRoot(t, f, fromBig(t, r))
			}
		}
	}
}

// TestP2_3_RootFar: roots of numbers beyond all squares of values.
func TestP2_3_RootFar(t *testing.T) {
	tiny, huge := num(t, "5/3"), num(t, "5/3")
	for range 40 {
		tiny, _ = tiny.Shift(-20000)
		huge, _ = huge.Shift(19999)
	}
	for _, f := range append(append([]api.Format{}, smallFormats...), wideFormats...) {
		m := modelOf(f)
		for _, mode := range modes {
			if got, want := got(floats.Root(f, mode, tiny)), done(m.round(mode, ratTwo(-2000))); got != want {
				t.Errorf("a tiny root, %v, mode %d: %v, want %v", f, mode, got, want)
			}
			if got, want := got(floats.Root(f, mode, huge)), done(m.round(mode, ratTwo(2000))); got != want {
				t.Errorf("a huge root, %v, mode %d: %v, want %v", f, mode, got, want)
			}
		}
	}
}

// TestP2_3_Hardware: conversions from double to single are those of the hardware.
func TestP2_3_Hardware(t *testing.T) {
	random := rand.New(rand.NewSource(4))
	double, single := api.Format{E: 11, P: 53}, api.Format{E: 8, P: 24}
	for range 3000 {
		exponent := 1023 + random.Intn(310) - 155
		bits := random.Uint64()&(1<<63|1<<52-1) | uint64(exponent)<<52
		if random.Intn(3) == 0 {
			bits &^= 1<<28 - 1 // often a middle of two values
		}
		want := math.Float32bits(float32(math.Float64frombits(bits)))
		w, _, e := floats.Cast(double, single, api.RnEven, api.Word{Lo: bits})
		if e != api.OK || w != (api.Word{Lo: uint64(want)}) {
			t.Fatalf("%x as single: %v, error %d, want %x", bits, w, e, want)
		}
	}
}

// TestP2_8_Nearest: no value is nearer, and none is between.
func TestP2_8_Nearest(t *testing.T) {
	for _, f := range smallFormats {
		list := values(t, f)
		for _, x := range gridAround(t, f) {
			for _, mode := range modes {
				w, flags, _ := floats.Round(f, mode, x)
				y, e := floats.Value(f, w)
				over := flags&api.FlOver != 0
				if over && mode <= api.RnAway || e != api.OK && (mode == api.RnUp || mode == api.RnDown) {
					continue
				}
				if e != api.OK || !floats.Has(f, y) {
					t.Fatalf("Round(%v, %d, %.40s): no value", f, mode, x.Text())
				}
				for _, v := range list {
					checkNearest(t, f, mode, x, y, v.x)
				}
			}
		}
	}
}

// checkNearest checks that y, to which x is rounded, is not surpassed by another
// value.
func checkNearest(t *testing.T, f api.Format, mode int, x, y, other exact.Num) {
	t.Helper()
	worse := false
	switch mode {
	case api.RnEven, api.RnAway:
		worse = other.Sub(x).Abs().Cmp(y.Sub(x).Abs()) < 0
	case api.RnUp:
		worse = y.Cmp(x) < 0 || other.Cmp(x) >= 0 && other.Cmp(y) < 0
	case api.RnDown:
		worse = y.Cmp(x) > 0 || other.Cmp(x) <= 0 && other.Cmp(y) > 0
	}
	if worse {
		t.Fatalf("Round(%v, %d, %.40s): %s, but there is %s", f, mode, x.Text(), y.Text(), other.Text())
	}
}

// TestP2_9_Monotone: a grid in ascending order is rounded in this order, and
// values to themselves.
func TestP2_9_Monotone(t *testing.T) {
	for _, f := range smallFormats {
		grid := gridAround(t, f)
		for _, mode := range modes {
			for i, x := range grid[:len(grid)-1] {
				y := grid[i+1]
				v, _, _ := floats.Round(f, mode, x.Min(y))
				w, _, _ := floats.Round(f, mode, x.Max(y))
				if order, flags, e := floats.Cmp(f, v, w); order > 0 || flags != 0 || e != api.OK {
					t.Errorf("%v, mode %d: %.40s and %.40s are rounded to %v and %v", f, mode, x.Text(), y.Text(), v, w)
				}
			}
			for _, v := range values(t, f) {
				if got := got(floats.Round(f, mode, v.x)); got != done(v.w, 0) {
					t.Errorf("%v, mode %d: the value %s is rounded to %v", f, mode, v.x.Text(), got)
				}
			}
		}
	}
}
