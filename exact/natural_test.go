package exact

import (
	"math/big"
	"math/rand"
	"reflect"
	"testing"
)

// toBig returns the same integer of the library that the tests compare with.
func toBig(a natural) *big.Int {
	out := new(big.Int)
	for i := len(a) - 1; i >= 0; i-- {
		out.Lsh(out, 64).Or(out, new(big.Int).SetUint64(a[i]))
	}
	return out
}

// sampleNaturals returns numbers of many lengths: random words, and words of
// zeros and ones alone, which lead to carries and to wrong guesses of quotients.
func sampleNaturals() []natural {
	random := rand.New(rand.NewSource(7))
	special := []uint64{0, 1, 1 << 63, ^uint64(0), ^uint64(0) - 1, 1<<63 - 1, 1 << 32}
	out := []natural{nil, {1}, {2}, {3}, {^uint64(0)}, {0, 1}, {1, 1}, {0, 1 << 63}}
	for _, n := range []int{1, 2, 3, 4, 7, 39, 40, 41, 80, 81, 125, 200} {
		for kind := range 4 {
			a := make(natural, n)
			for i := range a {
				a[i] = random.Uint64()
				if kind > 0 && random.Intn(4) < kind {
					a[i] = special[random.Intn(len(special))]
				}
			}
			a[n-1] |= 1 << uint(random.Intn(64))
			out = append(out, a)
		}
	}
	return out
}

func expectNatural(t *testing.T, what string, got natural, want *big.Int) {
	t.Helper()
	if toBig(got).Cmp(want) != 0 {
		t.Fatalf("%s: %x, want %x", what, toBig(got), want)
	}
	if got != nil && (len(got) == 0 || got[len(got)-1] == 0) {
		t.Fatalf("%s: zeros at the end of %x", what, []uint64(got))
	}
}

func TestCutZeros(t *testing.T) {
	if l := cutZeros([]uint8{1, 0, 2, 0, 0}); !reflect.DeepEqual(l, []uint8{1, 0, 2}) {
		t.Errorf("zeros are left: %v", l)
	}
	if l := cutZeros(natural{0, 0}); l != nil {
		t.Errorf("zeros alone: %v", l)
	}
	if l := cutZeros([]string(nil)); l != nil {
		t.Errorf("nothing: %v", l)
	}
}

func TestNaturalPairs(t *testing.T) {
	list := sampleNaturals()
	for _, a := range list {
		for _, b := range list {
			x, y := toBig(a), toBig(b)
			if got := a.cmp(b); got != x.Cmp(y) {
				t.Fatalf("cmp of %x and %x: %d", x, y, got)
			}
			expectNatural(t, "add", a.add(b), new(big.Int).Add(x, y))
			expectNatural(t, "mul", a.mul(b), new(big.Int).Mul(x, y))
			if x.Cmp(y) >= 0 {
				expectNatural(t, "sub", a.sub(b), new(big.Int).Sub(x, y))
			}
			if y.Sign() == 0 {
				continue
			}
			wantQuotient, wantRest := new(big.Int).QuoRem(x, y, new(big.Int))
			quotient, rest := a.divide(b)
			expectNatural(t, "quotient", quotient, wantQuotient)
			expectNatural(t, "rest", rest, wantRest)
			if x.Sign() != 0 && (a[0]|b[0])%2 == 1 {
				expectNatural(t, "gcd", gcd(a, b), new(big.Int).GCD(nil, nil, x, y))
			}
		}
	}
}

func TestQuotientsNextToMultiples(t *testing.T) {
	list := sampleNaturals()
	one := big.NewInt(1)
	for _, a := range list {
		for _, b := range list {
			if len(a) == 0 || len(b) == 0 {
				continue
			}
			product := a.mul(b)
			for _, n := range []natural{product, product.add(natural{1}), product.sub(natural{1})} {
				quotient, rest := n.divide(b)
				wantQuotient, wantRest := new(big.Int).QuoRem(toBig(n), toBig(b), new(big.Int))
				expectNatural(t, "quotient", quotient, wantQuotient)
				expectNatural(t, "rest", rest, wantRest)
			}
			square := new(big.Int).Mul(toBig(a), toBig(a))
			expectNatural(t, "root", a.mul(a).root(), toBig(a))
			expectNatural(t, "root", a.mul(a).sub(natural{1}).root(), new(big.Int).Sqrt(square.Sub(square, one)))
		}
	}
}

func TestCommonDivisors(t *testing.T) {
	random := rand.New(rand.NewSource(8))
	draw := func(n int) natural {
		a := make(natural, n)
		for i := range a {
			a[i] = random.Uint64()
		}
		a[0] |= 1
		a[n-1] |= 1
		return a
	}
	for range 3000 {
		divisor := draw(1 + random.Intn(6))
		a := draw(1 + random.Intn(12)).mul(divisor)
		b := draw(1 + random.Intn(12)).mul(divisor)
		expectNatural(t, "gcd", gcd(a, b), new(big.Int).GCD(nil, nil, toBig(a), toBig(b)))
	}
}

func TestCommonDivisorOfFibonacciNumbers(t *testing.T) {
	a, b := natural{1}, natural{1} // each step of Euclid's algorithm has the quotient 1
	for range 2000 {
		a, b = a.add(b), a
		if (a[0]|b[0])%2 == 1 {
			expectNatural(t, "gcd", gcd(a, b), big.NewInt(1))
		}
	}
}

func TestNaturalShiftsAndSizes(t *testing.T) {
	for _, a := range sampleNaturals() {
		x := toBig(a)
		if a.size() != x.BitLen() {
			t.Fatalf("size of %x: %d", x, a.size())
		}
		if x.Sign() != 0 && a.zeros() != int(x.TrailingZeroBits()) {
			t.Fatalf("zeros of %x: %d", x, a.zeros())
		}
		for _, k := range []int{0, 1, 5, 63, 64, 65, 128, 1000, 20000} {
			expectNatural(t, "left", a.left(k), new(big.Int).Lsh(x, uint(k)))
			expectNatural(t, "right", a.right(k), new(big.Int).Rsh(x, uint(k)))
		}
		expectNatural(t, "root", a.root(), new(big.Int).Sqrt(x))
		if x.Sign() != 0 && a.digits() != x.String() {
			t.Fatalf("digits of %x: %s", x, a.digits())
		}
	}
}

func TestSmallRootsAndDivisors(t *testing.T) {
	for n := range uint64(3000) {
		x := new(big.Int).SetUint64(n)
		expectNatural(t, "root", fromWord(n).root(), new(big.Int).Sqrt(x))
		for m := uint64(1); m < 100; m += 2 {
			if n > 0 {
				want := new(big.Int).GCD(nil, nil, x, new(big.Int).SetUint64(m))
				expectNatural(t, "gcd", gcd(fromWord(n), fromWord(m)), want)
			}
		}
	}
}

func TestGroupsOfDigits(t *testing.T) {
	row := "1234567890123456789012345678901234567890"
	var got []string
	for group := range groups(row) {
		got = append(got, group)
	}
	want := []string{"12", "3456789012345678901", "2345678901234567890"}
	if !reflect.DeepEqual(got, want) {
		t.Errorf("groups: %q", got)
	}
	for group := range groups(row) { // a loop that ends early
		if group != "12" {
			t.Errorf("first group: %q", group)
		}
		break
	}
}

// TestOneForm checks that equal numbers have equal fields, however they are made.
func TestOneForm(t *testing.T) {
	make1 := func(a, b int64) Num {
		x, _ := Ratio(a, b)
		return x
	}
	three, _ := make1(6, -16).Quo(make1(-1, 8))
	half, _ := Two(-1)
	for i, pair := range [][2]Num{
		{make1(1, 3).Sub(make1(1, 3)), {}},
		{make1(0, -5), {}},
		{make1(2, 3).Mul(Int(0)).Neg(), {}},
		{three, Int(3)},
		{make1(1, 3).Add(make1(1, 6)), half},
		{make1(5, 3).Floor(), Int(1)},
		{make1(-1, 3).Ceil(), Int(0)},
		{make1(10, 4).Mul(make1(2, 5)), Int(1)},
		{make1(7, 1).Up(2), Int(8)},
	} {
		if !reflect.DeepEqual(pair[0], pair[1]) {
			t.Errorf("%d: %#v, want %#v", i, pair[0], pair[1])
		}
	}
}
