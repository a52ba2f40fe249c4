package exact_test

import (
	"math"
	"math/big"
	"strings"
	"testing"

	"vernier/api"
	"vernier/exact"
)

var (
	nines2000 = strings.Repeat("9", 2000)
	nines2001 = strings.Repeat("9", 2001)
	evens2001 = strings.Repeat("8", 2001)
)

// TestP1_1_Check: which texts are valid, and which error others have.
func TestP1_1_Check(t *testing.T) {
	for _, c := range []struct {
		text string
		want api.Errno
	}{
		{"-3/8", api.OK}, {"5", api.OK}, {"0", api.OK}, {"10", api.OK}, {"-1", api.OK}, {"1/2", api.OK}, {"7/10", api.OK},
		{"6/8", api.ErrForm}, {"-0", api.ErrForm}, {"05", api.ErrForm}, {"3/1", api.ErrForm}, {"0/3", api.ErrForm}, {"+1", api.ErrForm}, {"1/", api.ErrForm},
		{"", api.ErrForm}, {"-", api.ErrForm}, {"--1", api.ErrForm}, {"/", api.ErrForm}, {"/2", api.ErrForm}, {"-/2", api.ErrForm}, {"00", api.ErrForm}, {"-05", api.ErrForm},
		{"1/0", api.ErrForm}, {"1/1", api.ErrForm}, {"1/02", api.ErrForm}, {"1/-2", api.ErrForm}, {"1/+2", api.ErrForm}, {"1/2/3", api.ErrForm}, {"1//2", api.ErrForm}, {"-0/3", api.ErrForm},
		{" 1", api.ErrForm}, {"1 ", api.ErrForm}, {"1\n", api.ErrForm}, {"1.5", api.ErrForm}, {"1e3", api.ErrForm}, {"0x1", api.ErrForm}, {"1_0", api.ErrForm}, {"a", api.ErrForm}, {"1/b", api.ErrForm},
		{"\xff", api.ErrForm}, {"1\x00", api.ErrForm}, {"\u0661", api.ErrForm}, {"1:", api.ErrForm}, {"\u22121", api.ErrForm},
		{"2/4", api.ErrForm}, {"3/3", api.ErrForm}, {"35/21", api.ErrForm}, {"-9/6", api.ErrForm}, {"18446744073709551616/2", api.ErrForm}, {"18446744073709551615/5", api.ErrForm},
		{nines2000, api.OK}, {"-" + nines2000, api.OK}, {"1/" + nines2000, api.OK}, {"-" + nines2000 + "/" + nines2000[1:] + "8", api.OK},
		{nines2001, api.ErrLong}, {"-" + nines2001, api.ErrLong}, {"1/" + nines2001, api.ErrLong}, {nines2001 + "/2", api.ErrLong}, {"0/" + nines2001, api.ErrLong},
		{nines2001 + "/" + nines2001, api.ErrLong}, {evens2001 + "/2", api.ErrLong}, {nines2001 + "/1", api.ErrForm}, {nines2001 + "x", api.ErrForm}, {"0" + nines2001, api.ErrForm}, {"1/0" + nines2001, api.ErrForm},
		{nines2000 + "/3", api.ErrForm}, {nines2000 + "/" + nines2000, api.ErrForm}, {"0/" + nines2000, api.ErrForm},
	} {
		if e := exact.Check(api.Rat(c.text)); e != c.want {
			t.Errorf("Check(%.20q): %d, want %d", c.text, e, c.want)
		}
		x, e := exact.Parse(api.Rat(c.text))
		switch {
		case e != c.want:
			t.Errorf("Parse(%.20q): error %d, want %d", c.text, e, c.want)
		case e == api.OK:
			expectText(t, "Parse", x, c.text)
		default:
			expectText(t, "Parse with an error", x, "0")
		}
	}
}

// TestP1_1_Text: long numbers have texts as well.
func TestP1_1_Text(t *testing.T) {
	expectText(t, "the zero value", exact.Num{}, "0")
	for _, s := range []string{"-3/8", nines2000, "-7/" + nines2000} {
		x := must(t)(num(t, s).Power(64))
		want := new(big.Rat).SetInt64(1)
		base := toBig(t, num(t, s))
		for range 64 {
			want.Mul(want, base)
		}
		expectBig(t, "a long text", x, want)
	}
	power := must(t)(exact.Two(-20000))
	expectText(t, "2^-20000", power, "1/"+new(big.Int).Lsh(big.NewInt(1), 20000).String())
}

// TestP1_1_Digits: the digits of the longer part.
func TestP1_1_Digits(t *testing.T) {
	for s, want := range map[string]int{
		"-3/125": 3, "0": 1, "7": 1, "-9": 1, "10": 2, "1/10": 2, "100/7": 3, "99/100": 3, "100/99": 3, "-12344/7": 5,
		"9999999999999999999": 19, "10000000000000000000": 20, nines2000: 2000, "1/" + nines2000: 2000, "-1/3": 1,
	} {
		if got := num(t, s).Digits(); got != want {
			t.Errorf("Digits(%.20s): %d, want %d", s, got, want)
		}
	}
	power := exact.Int(1)
	for n := 1; n <= 300; n++ {
		power = power.Mul(exact.Int(10))
		if got := power.Digits(); got != n+1 {
			t.Errorf("Digits(10^%d): %d", n, got)
		}
		if got := power.Sub(exact.Int(1)).Digits(); got != n {
			t.Errorf("Digits(10^%d - 1): %d", n, got)
		}
	}
	for k := -20000; k <= 20000; k += 391 {
		want := len(new(big.Int).Lsh(big.NewInt(1), uint(max(k, -k))).String())
		if got := must(t)(exact.Two(k)).Digits(); got != want {
			t.Errorf("Digits(2^%d): %d, want %d", k, got, want)
		}
	}
}

// TestP1_2_Int: integers, quotients of integers, powers of two.
func TestP1_2_Int(t *testing.T) {
	list := []int64{0, 1, -1, 2, 3, -5, 6, 16, 1 << 62, math.MaxInt64, math.MinInt64, math.MinInt64 + 1, 1<<32 - 1, -1 << 32}
	for _, a := range list {
		expectBig(t, "Int", exact.Int(a), new(big.Rat).SetInt64(a))
		for _, b := range list {
			if b == 0 {
				expectError(t, "Ratio", api.ErrZero)(exact.Ratio(a, b))
				continue
			}
			want := new(big.Rat).SetFrac(big.NewInt(a), big.NewInt(b))
			expectBig(t, "Ratio", must(t)(exact.Ratio(a, b)), want)
		}
	}
	expectText(t, "Ratio(6, -16)", must(t)(exact.Ratio(6, -16)), "-3/8")
	expectText(t, "Ratio(0, -5)", must(t)(exact.Ratio(0, -5)), "0")
	expectError(t, "Ratio(1, 0)", api.ErrZero)(exact.Ratio(1, 0))
}

func TestP1_2_Two(t *testing.T) {
	for _, k := range []int{0, 1, -1, 63, 64, -64, 1000, -1000, 20000, -20000} {
		size := new(big.Int).Lsh(big.NewInt(1), uint(max(k, -k)))
		want := new(big.Rat).SetInt(size)
		if k < 0 {
			want.Inv(want)
		}
		expectBig(t, "Two", must(t)(exact.Two(k)), want)
	}
	for _, k := range []int{20001, -20001, math.MaxInt, math.MinInt} {
		expectError(t, "Two", api.ErrRange)(exact.Two(k))
	}
}

// TestP1_13_Texts: texts and numbers correspond.
func TestP1_13_Texts(t *testing.T) {
	list := samples(t)
	for _, x := range list {
		for _, y := range list {
			if (x.Text() == y.Text()) != (x.Cmp(y) == 0) {
				t.Errorf("%.40s and %.40s: Cmp is %d", x.Text(), y.Text(), x.Cmp(y))
			}
		}
		if e := exact.Check(x.Text()); e != api.OK {
			t.Errorf("Check(%.40s): %d", x.Text(), e)
		}
		expectText(t, "Parse of Text", must(t)(exact.Parse(x.Text())), string(x.Text()))
	}
	longest := num(t, nines2000)
	for _, x := range []exact.Num{longest.Add(exact.Int(1)), longest.Neg().Sub(exact.Int(1)), must(t)(exact.Int(-3).Quo(longest.Add(exact.Int(1))))} {
		if x.Digits() != 2001 {
			t.Errorf("Digits: %d", x.Digits())
		}
		expectError(t, "Parse of a long text", api.ErrLong)(exact.Parse(x.Text()))
	}
}
