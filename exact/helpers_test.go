package exact_test

import (
	"math/big"
	"math/rand"
	"strings"
	"testing"

	"vernier/api"
	"vernier/exact"
)

// num reads a number that must be a valid text.
func num(t *testing.T, s string) exact.Num {
	t.Helper()
	x, e := exact.Parse(api.Rat(s))
	if e != api.OK {
		t.Fatalf("Parse(%.40s): error %d", s, e)
	}
	return x
}

// must returns a function that expects no error beside a number.
func must(t *testing.T) func(exact.Num, api.Errno) exact.Num {
	return func(x exact.Num, e api.Errno) exact.Num {
		t.Helper()
		if e != api.OK {
			t.Fatalf("error %d", e)
		}
		return x
	}
}

// toBig returns the number as one of the library that the tests compare with.
func toBig(t *testing.T, x exact.Num) *big.Rat {
	t.Helper()
	r, ok := new(big.Rat).SetString(string(x.Text()))
	if !ok {
		t.Fatalf("no number: %.40s", x.Text())
	}
	return r
}

// textOf returns the text that the chapter defines.
func textOf(r *big.Rat) string {
	return strings.TrimSuffix(r.String(), "/1")
}

func expectText(t *testing.T, what string, got exact.Num, want string) {
	t.Helper()
	if string(got.Text()) != want {
		t.Errorf("%s: %.60s, want %.60s", what, got.Text(), want)
	}
}

func expectBig(t *testing.T, what string, got exact.Num, want *big.Rat) {
	t.Helper()
	expectText(t, what, got, textOf(want))
}

// expectError expects an error, and 0 beside it.
func expectError(t *testing.T, what string, want api.Errno) func(exact.Num, api.Errno) {
	return func(x exact.Num, e api.Errno) {
		t.Helper()
		if e != want || x.Sign() != 0 || x.Text() != "0" {
			t.Errorf("%s: %.40s, error %d, want 0, error %d", what, x.Text(), e, want)
		}
	}
}

func randomRow(random *rand.Rand, digits int) string {
	row := []byte{byte('1' + random.Intn(9))}
	for len(row) < digits {
		row = append(row, byte('0'+random.Intn(10)))
	}
	return string(row)
}

// samples returns numbers of many kinds: small ones, neighbours of powers of two
// and of ten, and random ones up to the longest texts; some of them negative.
func samples(t *testing.T) []exact.Num {
	t.Helper()
	var out []exact.Num
	for _, s := range strings.Fields(`0 1 -1 2 -2 3 7 -8 12 1/2 -1/2 1/3 -1/3 2/3 -3/8 3/8 5/6 -7/3 22/7
		1023 1024 1/1024 4294967295 4294967296 9223372036854775807 9223372036854775808 -9223372036854775808
		-9223372036854775809 18446744073709551615 18446744073709551616 -18446744073709551617/3
		10000000000000000000 9999999999999999999 100000000000000000000000000000000000000
		1/18446744073709551616 -340282366920938463463374607431768211455/340282366920938463463374607431768211456`) {
		out = append(out, num(t, s))
	}
	random := rand.New(rand.NewSource(1))
	for _, size := range []struct{ top, bottom int }{
		{3, 0}, {19, 0}, {20, 0}, {60, 0}, {2000, 0}, {2, 3}, {10, 10}, {19, 19}, {20, 21}, {40, 38}, {200, 1}, {1, 200}, {500, 500}, {2000, 2000},
	} {
		for _, sign := range []string{"", "-"} {
			r, _ := new(big.Rat).SetString(sign + randomRow(random, size.top) + "/" + randomRow(random, size.bottom+1)[:max(size.bottom, 1)])
			out = append(out, num(t, textOf(r)))
		}
	}
	for _, k := range []int{-700, -64, 63, 700} {
		power := must(t)(exact.Two(k))
		out = append(out, power, power.Neg(), power.Mul(num(t, "5/3")), power.Mul(num(t, "-1125899906842623")))
	}
	return out
}

// smallFractions returns all numbers from -limit to limit whose denominator is
// at most that.
func smallFractions(t *testing.T, limit, bottoms int64) []exact.Num {
	t.Helper()
	var out []exact.Num
	for b := int64(1); b <= bottoms; b++ {
		for a := -limit * b; a <= limit*b; a++ {
			x := must(t)(exact.Ratio(a, b))
			if _, bottom := x.Parts(); bottom.Cmp(exact.Int(b)) == 0 {
				out = append(out, x)
			}
		}
	}
	return out
}
