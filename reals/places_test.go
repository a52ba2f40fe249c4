package reals_test

import (
	"math/big"
	"math/rand"
	"strings"
	"testing"

	"vernier/api"
	"vernier/exact"
	"vernier/reals"
)

// TestP3_5_Log: powers of two, their neighbours, negative numbers, and 0.
func TestP3_5_Log(t *testing.T) {
	for text, want := range map[string]int{
		"1": 0, "2": 1, "-1/2": -1, "1023/1024": -1, "-8": 3,
		"2; sqrt 0; 1 times 1":                          1, // 2, but not plain
		"2; sqrt 0; 1 times 1; neg 2":                   1,
		"1/2; sqrt 0; 1 times 1; 2 times 2":             -2,
		"1/1000; sqrt 0":                                -5,
		"1/1000; sqrt 0; neg 1":                         -5,
		"63; sqrt 0":                                    2,
		"65; sqrt 0; neg 1":                             3,
		"2; sqrt 0; 99/70; 1 less 2":                    -14,
		"2; sqrt 0; 99/70; 1 less 2; neg 3":             -14,
		"2; sqrt 0; 1 times 1; 0 less 2; 1/3; 3 plus 4": -2,
	} {
		l := list(t, text)
		expectInt(t, text, want, api.OK)(reals.Log(l, len(l)-1))
	}
	expectInt(t, "Log of 0", 0, api.ErrZero)(reals.Log(list(t, "0"), 0))
	expectInt(t, "Log of a 0 that is not plain", 0, api.ErrZero)(reals.Log(list(t, "2; sqrt 0; 1 less 1"), 2))
}

// TestP3_5_Floor: integers, their neighbours, and the limits of the scale.
func TestP3_5_Floor(t *testing.T) {
	for _, row := range []struct {
		text string
		k    int
		want string
	}{
		{"7/2", 0, "3"}, {"7/2", 1, "7"}, {"-7/2", 0, "-4"}, {"-7/2", -9, "-1"}, {"7/2", -9, "0"}, {"0", 2000, "0"},
		{"2; sqrt 0; 1 times 1", 0, "2"}, {"2; sqrt 0; 1 times 1", -1, "1"}, {"2; sqrt 0; 1 times 1; neg 2", -2, "-1"},
		{"2; sqrt 0; 1 times 1; 3; 2 by 3", 2, "2"},
		{"1/2; sqrt 0", 0, "0"}, {"1/2; sqrt 0; neg 1", 0, "-1"}, {"1/2; sqrt 0; neg 1", -2000, "-1"}, {"1/2; sqrt 0", -2000, "0"},
		{"99; sqrt 0", 0, "9"}, {"101; sqrt 0", 0, "10"}, {"101; sqrt 0; neg 1", 0, "-11"},
	} {
		l := list(t, row.text)
		expectNum(t, row.text, row.want)(reals.Floor(l, len(l)-1, row.k))
	}
	for _, text := range []string{"1", "2; sqrt 0"} {
		l := list(t, text)
		for _, k := range []int{2001, -2001, 1 << 62, -1 << 63} {
			if x, e := reals.Floor(l, len(l)-1, k); e != api.ErrRange || x.Sign() != 0 {
				t.Errorf("Floor of the last one of %s with %d: %s, error %d", text, k, x.Text(), e)
			}
		}
	}
}

// TestP3_5_FloorLimits: the greatest scales with the greatest and the least roots.
func TestP3_5_FloorLimits(t *testing.T) {
	great, _ := new(big.Int).SetString(string(nines[:1999]), 10)
	for _, k := range []int{-2000, -1, 0, 1, 1999, 2000} {
		l := []api.RlNode{{Kind: api.RlNum, Val: nines[:1999]}, {Kind: api.RlRoot, A: 0}}
		square := new(big.Int).Lsh(great, uint(4000+2*k))
		want := square.Sqrt(square)
		expectNum(t, "a great root", want.Rsh(want, 2000).String())(reals.Floor(l, 1, k))
		l[0].Val = "1/" + nines[:1999]
		want = new(big.Int)
		if k > 0 {
			want.Lsh(big.NewInt(1), uint(2*k)).Div(want, great)
			want.Sqrt(want)
		}
		expectNum(t, "a small root", want.String())(reals.Floor(l, 1, k))
	}
}

// TestP3_5_FloorQuotients: divisors that are very near to 0, and roots of such.
func TestP3_5_FloorQuotients(t *testing.T) {
	l := list(t, "2; sqrt 0; 14142135623730950488016887242096980785696718753771/1"+strings.Repeat("0", 49)+"; 2 less 1; sqrt 3; 1 by 3; 1 by 4; neg 5; neg 4; 3 times 3; 8 by 9")
	root := newFloat().Sqrt(newFloat().SetInt64(2))
	rest := newFloat().Sub(newFloat().SetRat(toBig(t, num(t, string(l[2].Val)))), root)
	restRoot := newFloat().Sqrt(rest)
	quotient := newFloat().Quo(root, rest)
	power := newFloat().Quo(restRoot, newFloat().Mul(rest, rest))
	for i, x := range map[int]*big.Float{5: quotient, 6: newFloat().Quo(root, restRoot), 7: newFloat().Neg(quotient), 10: newFloat().Neg(power)} {
		for _, k := range []int{-400, -150, -60, 0, 200} {
			expectNum(t, "a great quotient", model{x: x}.floor(k).String())(reals.Floor(l, i, k))
		}
	}
}

// TestP3_9_Floor: Floor with k + 1 is twice Floor with k, or 1 more.
func TestP3_9_Floor(t *testing.T) {
	random := rand.New(rand.NewSource(9))
	for range 200 {
		l := randomList(random, 12)
		i, k := random.Intn(12), random.Intn(300)-150
		low, e := reals.Floor(l, i, k)
		high, f := reals.Floor(l, i, k+1)
		more := high.Sub(low).Sub(low)
		if e != f || more.Sign() != 0 && more.Cmp(exact.Int(1)) != 0 {
			t.Errorf("%s: Floor of %d with %d: %s, and then %s", textOf(l), i, k, low.Text(), high.Text())
		}
	}
}

// TestP3_5_EncloseRoots: roots of numbers, with any bits, are enclosed as package
// exact encloses them.
func TestP3_5_EncloseRoots(t *testing.T) {
	random := rand.New(rand.NewSource(10))
	values := []string{"2", "3", "9/4", "1/3", "0", "1", "1000001/1000000", "999999/1000000", string(nines), "1/" + string(nines), string(nines[:700]) + "/1" + strings.Repeat("0", 600)}
	for _, text := range values {
		l := list(t, text+"; sqrt 0; neg 1")
		x := num(t, text)
		for _, bits := range []int{-1 << 63, -1, 0, 1, 2, 3, 53, 64, 65, 127, 128, 129, 1000, 3998, 3999, 4000, 4001, 1 << 62, 1 + random.Intn(4000)} {
			lo, _ := x.RootDown(bits)
			hi, _ := x.RootUp(bits)
			expectSpan(t, "a root", string(lo.Text()), string(hi.Text()))(reals.Enclose(l, 1, bits))
			expectSpan(t, "the negative of a root", string(hi.Neg().Text()), string(lo.Neg().Text()))(reals.Enclose(l, 2, bits))
			expectSpan(t, "a number", string(x.Down(bits).Text()), string(x.Up(bits).Text()))(reals.Enclose(l, 0, bits))
		}
	}
}

// TestP3_5_EncloseSums: a sum of roots, with many bits, against the library.
func TestP3_5_EncloseSums(t *testing.T) {
	l := list(t, "2; 3; sqrt 0; sqrt 1; 2 plus 3; 4 less 1; 10; 4 by 5; sqrt 4")
	float := func(n int64) *big.Float { return newFloat().Sqrt(newFloat().SetInt64(n)) }
	sum := newFloat().Add(float(2), float(3))
	rest := newFloat().Sub(sum, newFloat().SetInt64(3))
	for i, x := range map[int]*big.Float{4: sum, 5: rest, 7: newFloat().Quo(sum, rest), 8: newFloat().Sqrt(sum)} {
		for _, bits := range []int{1, 60, 500, 2100} {
			lo, hi := model{x: x}.enclosed(bits)
			expectSpan(t, "a sum of roots", strings.TrimSuffix(lo.String(), "/1"), strings.TrimSuffix(hi.String(), "/1"))(reals.Enclose(l, i, bits))
		}
	}
}

// TestP3_9_Enclose: the numbers enclose the value, have at most so many bits, and
// are the same exactly if the value is such a number.
func TestP3_9_Enclose(t *testing.T) {
	random := rand.New(rand.NewSource(13))
	for range 300 {
		l := randomList(random, 12)
		i, bits := random.Intn(12), 1+random.Intn(80)
		lo, hi, e := reals.Enclose(l, i, bits)
		if e != api.OK {
			continue
		}
		if lo.Down(bits).Cmp(lo) != 0 || hi.Down(bits).Cmp(hi) != 0 {
			t.Errorf("%s: Enclose of %d with %d bits: %s and %s have more", textOf(l), i, bits, lo.Text(), hi.Text())
		}
		both := append(l, api.RlNode{Kind: api.RlNum, Val: lo.Text()}, api.RlNode{Kind: api.RlNum, Val: hi.Text()})
		low, e := reals.Cmp(both, len(l), i)
		high, f := reals.Cmp(both, i, len(l)+1)
		if e != api.OK || f != api.OK || low > 0 || high > 0 || (low == 0 || high == 0) != (lo.Cmp(hi) == 0) {
			t.Errorf("%s: Enclose of %d with %d bits: %s and %s, with the orders %d and %d", textOf(l), i, bits, lo.Text(), hi.Text(), low, high)
		}
	}
}

// TestP3_6_Within: ends of the span, from both sides, for plain nodes and others.
func TestP3_6_Within(t *testing.T) {
	for _, row := range []struct {
		text, x, d string
		want       bool
	}{
		{"1/3", "1/3", "0", true}, {"1/3", "1/2", "1/6", true}, {"1/3", "1/6", "1/6", true}, {"1/3", "1/2", "1/7", false}, {"1/3", "0", "1/4", false}, {"-5", "5", "10", true}, {"-5", "5", "9", false},
		{"2; sqrt 0; 1 times 1", "2", "0", true}, {"2; sqrt 0; 1 times 1", "3", "1", true}, {"2; sqrt 0; 1 times 1", "1", "1", true}, {"2; sqrt 0; 1 times 1", "1", "999/1000", false},
		{"2; sqrt 0", "7/5", "0", false}, {"2; sqrt 0", "0", "3/2", true}, {"2; sqrt 0", "3", "3/2", false}, {"2; sqrt 0", "3", "8/5", true}, {"2; sqrt 0", "-3", "9/2", true}, {"2; sqrt 0", "-3", "4", false},
		{"2; sqrt 0; neg 1", "-7/5", "1/50", true}, {"2; sqrt 0; neg 1", "-7/5", "1/100", false}, {"2; sqrt 0; neg 1", "7/5", "1/50", false},
	} {
		l := list(t, row.text)
		expectIs(t, row.text+" within "+row.d+" of "+row.x, row.want, api.OK)(reals.Within(l, len(l)-1, num(t, row.x), num(t, row.d)))
	}
	l := list(t, "1; 2; sqrt 1")
	for i := range l {
		expectIs(t, "a distance below 0", false, api.ErrArg)(reals.Within(l, i, exact.Int(1), num(t, "-1/1000")))
	}
	far := two(t, 20000).Mul(two(t, 20000))
	expectIs(t, "far away", false, api.OK)(reals.Within(l, 2, far, exact.Int(5)))
	expectIs(t, "far and wide", true, api.OK)(reals.Within(l, 2, far, far))
	expectIs(t, "far, and not wide enough", false, api.OK)(reals.Within(l, 2, far, far.Sub(exact.Int(2))))
}
