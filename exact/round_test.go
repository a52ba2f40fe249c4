package exact_test

import (
	"math"
	"math/big"
	"testing"

	"vernier/api"
	"vernier/exact"
)

// bitCounts are arguments named bits, with those beyond both limits.
var bitCounts = []int{math.MinInt, -1, 0, 1, 2, 3, 24, 53, 64, 65, 96, 128, 1000, 4000, 4001, math.MaxInt}

// asBits returns what an argument named bits is treated as.
func asBits(bits int) int {
	switch {
	case bits < 1:
		return 1
	case bits > 4000:
		return 4000
	}
	return bits
}

func twoTo(k int) *big.Rat {
	r := new(big.Rat).SetInt(new(big.Int).Lsh(big.NewInt(1), uint(max(k, -k))))
	if k < 0 {
		r.Inv(r)
	}
	return r
}

// floorOf returns the greatest integer that is not above r.
func floorOf(r *big.Rat) *big.Rat {
	return new(big.Rat).SetInt(new(big.Int).Div(r.Num(), r.Denom())) // Div rounds down by a divisor above 0
}

// logOf returns the logarithm of the size of r, which is not 0, rounded down.
func logOf(r *big.Rat) int {
	size := new(big.Rat).Abs(r)
	k := size.Num().BitLen() - size.Denom().BitLen()
	if twoTo(k).Cmp(size) > 0 {
		k--
	}
	return k
}

// hasBits reports whether x has at most so many bits.
func hasBits(x exact.Num, bits int) bool {
	if x.Sign() == 0 {
		return true
	}
	odd, e := x.Abs().Shift(-x.Twos())
	if e != api.OK || !odd.IsInt() {
		return false
	}
	k, _ := odd.Log()
	return k < bits
}

// TestP1_5_Integers: Floor, Ceil, IsInt and Log.
func TestP1_5_Integers(t *testing.T) {
	for _, x := range append(samples(t), smallFractions(t, 3, 8)...) {
		a := toBig(t, x)
		expectBig(t, "Floor", x.Floor(), floorOf(a))
		ceil := floorOf(new(big.Rat).Neg(a))
		expectBig(t, "Ceil", x.Ceil(), ceil.Neg(ceil))
		if x.IsInt() != a.IsInt() {
			t.Errorf("IsInt(%.40s): %v", x.Text(), x.IsInt())
		}
		k, e := x.Log()
		switch {
		case a.Sign() == 0 && (k != 0 || e != api.ErrZero):
			t.Errorf("Log(0): %d, error %d", k, e)
		case a.Sign() != 0 && (k != logOf(a) || e != api.OK):
			t.Errorf("Log(%.40s): %d, error %d", x.Text(), k, e)
		}
	}
	expectText(t, "Floor of -3/8", num(t, "-3/8").Floor(), "-1")
	expectText(t, "Ceil of -3/8", num(t, "-3/8").Ceil(), "0")
	for s, want := range map[string]int{"3/8": -2, "-8": 3, "1": 0, "1/3": -2, "1023": 9, "1024": 10, "1025": 10, "3/2": 0, "-1/2": -1} {
		if k, e := num(t, s).Log(); k != want || e != api.OK {
			t.Errorf("Log(%s): %d, error %d", s, k, e)
		}
	}
}

func TestP1_5_Int64(t *testing.T) {
	for _, n := range []int64{0, 1, -1, 2, -6, 1 << 40, math.MaxInt64, math.MaxInt64 - 1, math.MinInt64, math.MinInt64 + 1} {
		if got, e := exact.Int(n).Int64(); got != n || e != api.OK {
			t.Errorf("Int64(%d): %d, error %d", n, got, e)
		}
	}
	for s, want := range map[string]api.Errno{
		"3/2": api.ErrForm, "-1/18446744073709551616": api.ErrForm, "99999999999999999999999/2": api.ErrForm,
		"9223372036854775808": api.ErrRange, "-9223372036854775809": api.ErrRange, "18446744073709551615": api.ErrRange, "-9223372036854775810": api.ErrRange,
		"18446744073709551616": api.ErrRange, "-18446744073709551616": api.ErrRange, "18446744073709551617": api.ErrRange, "-36893488147419103232": api.ErrRange,
	} {
		if got, e := num(t, s).Int64(); got != 0 || e != want {
			t.Errorf("Int64(%s): %d, error %d, want %d", s, got, e, want)
		}
	}
}

// TestP1_6_Down: compared with the definition by the unit of the last place.
func TestP1_6_Down(t *testing.T) {
	for _, x := range samples(t) {
		a := toBig(t, x)
		for _, bits := range bitCounts {
			if a.Sign() == 0 {
				expectText(t, "Down of 0", x.Down(bits), "0")
				expectText(t, "Up of 0", x.Up(bits), "0")
				continue
			}
			unit := twoTo(logOf(a) - asBits(bits) + 1)
			multiple := new(big.Rat).Quo(a, unit)
			down := floorOf(multiple)
			up := floorOf(multiple.Neg(multiple))
			expectBig(t, "Down", x.Down(bits), down.Mul(down, unit))
			expectBig(t, "Up", x.Up(bits), up.Mul(up.Neg(up), unit))
		}
	}
}

// TestP1_6_Search: compared with all numbers of so many bits.
func TestP1_6_Search(t *testing.T) {
	for bits := 1; bits <= 4; bits++ {
		var list []exact.Num // all numbers of so many bits between 1/64 and 16 in size, and 0
		for m := int64(-1<<bits + 1); m < 1<<bits; m++ {
			for k := -12; k <= 4; k++ {
				list = append(list, must(t)(exact.Int(m).Shift(k)))
			}
		}
		for _, x := range smallFractions(t, 8, 9) {
			down, up := exact.Int(-16), exact.Int(16)
			for _, y := range list {
				if y.Cmp(x) <= 0 {
					down = down.Max(y)
				}
				if y.Cmp(x) >= 0 {
					up = up.Min(y)
				}
			}
			expectText(t, "Down of "+string(x.Text()), x.Down(bits), string(down.Text()))
			expectText(t, "Up of "+string(x.Text()), x.Up(bits), string(up.Text()))
		}
	}
}

func TestP1_6_Examples(t *testing.T) {
	third := num(t, "1/3")
	expectText(t, "Down of 1/3 with 3 bits", third.Down(3), "5/16")
	expectText(t, "Up of 1/3 with 3 bits", third.Up(3), "3/8")
	expectText(t, "Down of -1/3 with 3 bits", third.Neg().Down(3), "-3/8")
	expectText(t, "Up of 7 with 2 bits", exact.Int(7).Up(2), "8")
	expectText(t, "Down of 7 with 2 bits", exact.Int(7).Down(2), "6")
	last := must(t)(exact.Two(-4001)) // the unit of 1/3 with 4000 bits
	if third.Up(4001).Sub(third.Down(4001)).Cmp(last) != 0 || third.Up(4000).Sub(third.Down(4000)).Cmp(last) != 0 {
		t.Error("the limit is not 4000 bits")
	}
	if third.Up(-7).Cmp(third.Up(1)) != 0 || third.Up(1).Cmp(third.Up(2)) == 0 {
		t.Error("the least number of bits is not 1")
	}
}

// TestP1_7_Roots: squares enclose the number, and the results are neighbours.
func TestP1_7_Roots(t *testing.T) {
	for _, x := range samples(t) {
		for _, bits := range bitCounts {
			if x.Sign() < 0 {
				expectError(t, "RootDown", api.ErrDomain)(x.RootDown(bits))
				expectError(t, "RootUp", api.ErrDomain)(x.RootUp(bits))
				continue
			}
			down, up := must(t)(x.RootDown(bits)), must(t)(x.RootUp(bits))
			checkRoots(t, x, down, up, asBits(bits))
		}
	}
}

// checkRoots checks that down is the greatest number of so many bits that is not
// above the root of x, and up the least one that is not below it.
func checkRoots(t *testing.T, x, down, up exact.Num, bits int) {
	t.Helper()
	name := string(x.Text())
	if !hasBits(down, bits) || !hasBits(up, bits) || down.Sign() < 0 || up.Sign() < 0 {
		t.Errorf("roots of %.40s with %d bits: %.40s and %.40s", name, bits, down.Text(), up.Text())
	}
	low, high := down.Mul(down).Cmp(x), up.Mul(up).Cmp(x)
	switch {
	case low > 0 || high < 0:
		t.Errorf("roots of %.40s with %d bits: they do not enclose it", name, bits)
	case (low == 0) != (high == 0) || low == 0 && down.Cmp(up) != 0:
		t.Errorf("roots of %.40s with %d bits: one alone is exact", name, bits)
	case low != 0:
		k, _ := down.Log()
		unit := must(t)(exact.Two(k - bits + 1)) // of the last place of down: up is the next number
		if down.Add(unit).Cmp(up) != 0 {
			t.Errorf("roots of %.40s with %d bits: a number is between them", name, bits)
		}
	}
}

// TestP1_7_Search: compared with all numbers of so many bits.
func TestP1_7_Search(t *testing.T) {
	for bits := 1; bits <= 4; bits++ {
		for _, x := range smallFractions(t, 6, 9) {
			if x.Sign() < 0 {
				continue
			}
			down, up := exact.Int(0), exact.Int(8)
			for m := int64(0); m < 1<<bits; m++ {
				for k := -12; k <= 4; k++ {
					y := must(t)(exact.Int(m).Shift(k))
					if y.Mul(y).Cmp(x) <= 0 {
						down = down.Max(y)
					}
					if y.Mul(y).Cmp(x) >= 0 {
						up = up.Min(y)
					}
				}
			}
			expectText(t, "RootDown of "+string(x.Text()), must(t)(x.RootDown(bits)), string(down.Text()))
			expectText(t, "RootUp of "+string(x.Text()), must(t)(x.RootUp(bits)), string(up.Text()))
		}
	}
}

func TestP1_7_Examples(t *testing.T) {
	expectText(t, "RootDown of 2", must(t)(exact.Int(2).RootDown(4)), "11/8")
	expectText(t, "RootUp of 2", must(t)(exact.Int(2).RootUp(4)), "3/2")
	expectText(t, "RootUp of 9/4", must(t)(num(t, "9/4").RootUp(2)), "3/2")
	expectText(t, "RootUp of 15", must(t)(exact.Int(15).RootUp(1)), "4")
}

// TestP1_7_Root: exact roots, and numbers that have none.
func TestP1_7_Root(t *testing.T) {
	for _, x := range samples(t) {
		root, is := x.Mul(x).Root()
		if !is || root.Cmp(x.Abs()) != 0 {
			t.Errorf("Root of the square of %.40s: %.40s, %v", x.Text(), root.Text(), is)
		}
		if x.Sign() == 0 {
			continue
		}
		little := must(t)(exact.Two(-20000))
		for _, y := range []exact.Num{
			x.Mul(x).Mul(exact.Int(2)), x.Mul(x).Mul(exact.Int(17)), must(t)(x.Mul(x).Quo(exact.Int(3))), must(t)(x.Mul(x).Quo(exact.Int(41))),
			x.Mul(x).Neg(), x.Mul(x).Sub(little), x.Mul(x).Mul(exact.Int(9)).Add(little.Mul(little)),
		} {
			root, is := y.Root()
			want, wantIs := rootOf(toBig(t, y))
			if is != wantIs || toBig(t, root).Cmp(want) != 0 {
				t.Errorf("Root(%.40s): %.40s, %v", y.Text(), root.Text(), is)
			}
		}
	}
	if root, is := num(t, "9/4").Root(); !is || root.Text() != "3/2" {
		t.Errorf("Root of 9/4: %s, %v", root.Text(), is)
	}
	if root, is := exact.Int(2).Root(); is || root.Text() != "0" {
		t.Errorf("Root of 2: %s, %v", root.Text(), is)
	}
	if root, is := (exact.Num{}).Root(); !is || root.Text() != "0" {
		t.Errorf("Root of 0: %s, %v", root.Text(), is)
	}
}

// rootOf returns the square root, if there is one, or 0.
func rootOf(r *big.Rat) (*big.Rat, bool) {
	if r.Sign() < 0 {
		return new(big.Rat), false
	}
	root := new(big.Rat).SetFrac(new(big.Int).Sqrt(r.Num()), new(big.Int).Sqrt(r.Denom()))
	if new(big.Rat).Mul(root, root).Cmp(r) != 0 {
		return new(big.Rat), false
	}
	return root, true
}

// TestP1_11_Enclosures: how Down and Up lie, and how they change with the bits.
func TestP1_11_Enclosures(t *testing.T) {
	for _, x := range samples(t) {
		lastDown, lastUp := x.Down(1), x.Up(1)
		for _, bits := range bitCounts {
			down, up := x.Down(bits), x.Up(bits)
			if down.Cmp(x) > 0 || up.Cmp(x) < 0 {
				t.Errorf("%.40s is not enclosed with %d bits", x.Text(), bits)
			}
			if down.Cmp(lastDown) < 0 || up.Cmp(lastUp) > 0 {
				t.Errorf("%.40s: %d bits are farther away", x.Text(), bits)
			}
			lastDown, lastUp = down, up
			if x.Neg().Down(bits).Cmp(up.Neg()) != 0 {
				t.Errorf("%.40s: Down of the negative with %d bits", x.Text(), bits)
			}
			if hasBits(x, asBits(bits)) {
				if down.Cmp(x) != 0 || up.Cmp(x) != 0 {
					t.Errorf("%.40s has %d bits, but is rounded", x.Text(), bits)
				}
				continue
			}
			k, _ := x.Log()
			if up.Sub(down).Cmp(must(t)(exact.Two(k-asBits(bits)+1))) != 0 {
				t.Errorf("%.40s: Up less Down with %d bits", x.Text(), bits)
			}
		}
	}
}

// TestP1_12_Roots: a root of so many bits is found, and nothing lies between
// both results otherwise.
func TestP1_12_Roots(t *testing.T) {
	for _, x := range samples(t) {
		x = x.Abs()
		for _, bits := range []int{1, 5, 64, 200, 4000} {
			root := x.Down(bits)
			square := root.Mul(root)
			down, up := must(t)(square.RootDown(bits)), must(t)(square.RootUp(bits))
			if down.Cmp(root) != 0 || up.Cmp(root) != 0 {
				t.Errorf("root %.40s with %d bits: %.40s and %.40s", root.Text(), bits, down.Text(), up.Text())
			}
			checkRoots(t, x, must(t)(x.RootDown(bits)), must(t)(x.RootUp(bits)), bits)
		}
	}
}

// TestP1_15_Integers: how Floor, Ceil and Log lie.
func TestP1_15_Integers(t *testing.T) {
	for _, x := range samples(t) {
		floor, ceil := x.Floor(), x.Ceil()
		width := ceil.Sub(floor)
		if x.IsInt() && (floor.Cmp(x) != 0 || ceil.Cmp(x) != 0) || !x.IsInt() && width.Cmp(exact.Int(1)) != 0 {
			t.Errorf("%.40s: Floor %.40s, Ceil %.40s", x.Text(), floor.Text(), ceil.Text())
		}
		if floor.Cmp(x) > 0 || ceil.Cmp(x) < 0 || !floor.IsInt() || !ceil.IsInt() {
			t.Errorf("%.40s is not between Floor and Ceil", x.Text())
		}
		if x.Sign() == 0 {
			continue
		}
		k, e := x.Log()
		power := must(t)(exact.Two(k))
		if e != api.OK || power.Cmp(x.Abs()) > 0 || power.Add(power).Cmp(x.Abs()) <= 0 {
			t.Errorf("Log(%.40s): %d, error %d", x.Text(), k, e)
		}
	}
}
