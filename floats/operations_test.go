package floats_test

import (
	"math"
	"math/big"
	"math/rand"
	"testing"

	"vernier/api"
	"vernier/exact"
	"vernier/floats"
)

// binary is an operation of two words, and that of the second machine.
type binary struct {
	name  string
	call  func(f api.Format, mode int, a, b api.Word) (api.Word, int, api.Errno)
	model func(m model, mode int, a, b modelValue) (api.Word, int)
}

func callRem(f api.Format, _ int, a, b api.Word) (api.Word, int, api.Errno) {
	return floats.Rem(f, a, b)
}

var binaries = []binary{
	{"Add", floats.Add, model.add},
	{"Sub", floats.Sub, model.sub},
	{"Mul", floats.Mul, model.mul},
	{"Div", floats.Div, model.div},
	{"Rem", callRem, func(m model, _ int, a, b modelValue) (api.Word, int) { return m.rem(a, b) }},
}

func checkBinary(t *testing.T, op binary, f api.Format, mode int, a, b api.Word) {
	t.Helper()
	m := modelOf(f)
	want := done(op.model(m, mode, m.decode(a), m.decode(b)))
	if got := got(op.call(f, mode, a, b)); got != want {
		t.Fatalf("%s(%v, %d, %s, %s): %v, want %v", op.name, f, mode, textFor(t, f, a), textFor(t, f, b), got, want)
	}
}

// TestP2_4_BinarySmall: all pairs of words of the least formats, in every mode.
func TestP2_4_BinarySmall(t *testing.T) {
	for _, f := range smallFormats[:4] {
		words := allWords(f)
		for _, op := range binaries {
			for _, mode := range modes {
				for _, a := range words {
					for _, b := range words {
						checkBinary(t, op, f, mode, a, b)
					}
				}
			}
		}
	}
}

// TestP2_4_BinaryWide: words of wide formats, also such that nearly cancel.
func TestP2_4_BinaryWide(t *testing.T) {
	random := rand.New(rand.NewSource(5))
	for _, f := range append(append([]api.Format{}, smallFormats[4:]...), wideFormats...) {
		for _, op := range binaries {
			for _, mode := range modes {
				for range 15 {
					a, b := randomWord(random, f), randomWord(random, f)
					checkBinary(t, op, f, mode, a, b)
					checkBinary(t, op, f, mode, a, nearWord(random, f, a))
				}
			}
		}
	}
}

func checkSqrt(t *testing.T, f api.Format, a api.Word) {
	t.Helper()
	m := modelOf(f)
	for _, mode := range modes {
		want := done(m.sqrt(mode, m.decode(a)))
		if got := got(floats.Sqrt(f, mode, a)); got != want {
			t.Fatalf("Sqrt(%v, %d, %s): %v, want %v", f, mode, textFor(t, f, a), got, want)
		}
	}
}

// TestP2_4_Sqrt: all words of small formats, and words of wide ones.
func TestP2_4_Sqrt(t *testing.T) {
	random := rand.New(rand.NewSource(6))
	for _, f := range smallFormats {
		for _, a := range allWords(f) {
			checkSqrt(t, f, a)
		}
	}
	for _, f := range wideFormats {
		for range 15 {
			checkSqrt(t, f, randomWord(random, f))
		}
	}
}

func checkFma(t *testing.T, f api.Format, mode int, a, b, c api.Word) {
	t.Helper()
	m := modelOf(f)
	want := done(m.fma(mode, m.decode(a), m.decode(b), m.decode(c)))
	if got := got(floats.Fma(f, mode, a, b, c)); got != want {
		t.Fatalf("Fma(%v, %d, %s, %s, %s): %v, want %v", f, mode, textFor(t, f, a), textFor(t, f, b), textFor(t, f, c), got, want)
	}
}

// TestP2_4_FmaSmall: all triples of words of two of the least formats; each in
// one mode, all modes in turn.
func TestP2_4_FmaSmall(t *testing.T) {
	for _, f := range smallFormats[:2] {
		words := allWords(f)
		turn := 0
		for _, a := range words {
			for _, b := range words {
				for _, c := range words {
					checkFma(t, f, modes[turn%5], a, b, c)
					turn++
				}
			}
		}
	}
}

// TestP2_4_FmaWide: also such sums that nearly cancel: the third operand is near
// the product.
func TestP2_4_FmaWide(t *testing.T) {
	random := rand.New(rand.NewSource(7))
	for _, f := range append(append([]api.Format{}, smallFormats[2:]...), wideFormats...) {
		for _, mode := range modes {
			for range 25 {
				a, b := randomWord(random, f), randomWord(random, f)
				checkFma(t, f, mode, a, b, randomWord(random, f))
				product, _, _ := floats.Mul(f, mode, a, b)
				checkFma(t, f, mode, a, b, nearWord(random, f, product))
				bits := bigOf(product)
				opposite := wordOf(bits.SetBit(bits, f.E+f.P-1, 1-bits.Bit(f.E+f.P-1)))
				checkFma(t, f, mode, a, b, opposite)
			}
		}
	}
}

// TestP2_4_Cast: words of each format to each other one.
func TestP2_4_Cast(t *testing.T) {
	random := rand.New(rand.NewSource(8))
	check := func(f, g api.Format, mode int, a api.Word) {
		want := done(modelOf(g).cast(mode, modelOf(f).decode(a)))
		if got := got(floats.Cast(f, g, mode, a)); got != want {
			t.Fatalf("Cast(%v, %v, %d, %s): %v, want %v", f, g, mode, textFor(t, f, a), got, want)
		}
	}
	for _, f := range smallFormats {
		for _, g := range smallFormats {
			for _, a := range allWords(f) {
				for _, mode := range modes {
					check(f, g, mode, a)
				}
			}
		}
	}
	formats := append(append([]api.Format{}, smallFormats...), wideFormats...)
	for _, f := range formats {
		for _, g := range formats {
			for _, mode := range modes {
				check(f, g, mode, randomWord(random, f))
				check(f, g, mode, randomWord(random, f))
			}
		}
	}
}

// TestP2_4_Hardware: operations of double are those of the hardware, but for the
// bits of NaN.
func TestP2_4_Hardware(t *testing.T) {
	f := api.Format{E: 11, P: 53}
	random := rand.New(rand.NewSource(9))
	expect := func(name string, want float64, w api.Word, e api.Errno, in ...float64) {
		t.Helper()
		bits := api.Word{Lo: math.Float64bits(want)}
		if math.IsNaN(want) {
			bits = wordFor(t, f, "nan")
		}
		if e != api.OK || w != bits {
			t.Fatalf("%s of %v: %v, error %d, want %v", name, in, w, e, bits)
		}
	}
	for range 2000 {
		a := randomWord(random, f)
		b, c := nearWord(random, f, a), randomWord(random, f)
		if random.Intn(2) == 0 {
			b, c = c, b
		}
		x, y, z := math.Float64frombits(a.Lo), math.Float64frombits(b.Lo), math.Float64frombits(c.Lo)
		w, _, e := floats.Add(f, api.RnEven, a, b)
		expect("Add", x+y, w, e, x, y)
		w, _, e = floats.Sub(f, api.RnEven, a, b)
		expect("Sub", x-y, w, e, x, y)
		w, _, e = floats.Mul(f, api.RnEven, a, b)
		expect("Mul", x*y, w, e, x, y)
		w, _, e = floats.Div(f, api.RnEven, a, b)
		expect("Div", x/y, w, e, x, y)
		w, _, e = floats.Rem(f, a, b)
		expect("Rem", math.Remainder(x, y), w, e, x, y)
		w, _, e = floats.Sqrt(f, api.RnEven, a)
		expect("Sqrt", math.Sqrt(x), w, e, x)
		w, _, e = floats.Fma(f, api.RnEven, a, b, c)
		expect("Fma", math.FMA(x, y, z), w, e, x, y, z)
	}
}

// TestP2_Correct: P2, for the format with most bits: in every mode results are
// those of the library with 113 bits, where they are normal.
func TestP2_Correct(t *testing.T) {
	f := api.Format{E: 11, P: 113}
	libraryModes := []big.RoundingMode{big.ToNearestEven, big.ToNearestAway, big.ToZero, big.ToPositiveInf, big.ToNegativeInf}
	random := rand.New(rand.NewSource(10))
	for range 1000 {
		i := random.Intn(5)
		place := func() (api.Word, *big.Float) {
			x := new(big.Float).SetPrec(113).SetInt(new(big.Int).Rand(random, intTwo(113)))
			x.SetMantExp(x, random.Intn(20)-120)
			r, _ := x.Rat(nil)
			w, flags, e := floats.Round(f, modes[i], fromBig(t, r))
			if flags != 0 || e != api.OK {
				t.Fatalf("%v: flags %d, error %d", x, flags, e)
			}
			return w, x
		}
		a, x := place()
		b, y := place()
		z := new(big.Float).SetPrec(113).SetMode(libraryModes[i])
		for _, op := range []struct {
			call func(f api.Format, mode int, a, b api.Word) (api.Word, int, api.Errno)
			want *big.Float
		}{{floats.Add, new(big.Float).Copy(z).Add(x, y)}, {floats.Mul, new(big.Float).Copy(z).Mul(x, y)}, {floats.Div, new(big.Float).Copy(z).Quo(x, y)}} {
			w, flags, e := op.call(f, modes[i], a, b)
			r, _ := op.want.Rat(nil)
			inexact := op.want.Acc() != big.Exact
			if v := modelOf(f).decode(w); e != api.OK || v.num.Cmp(r) != 0 || (flags == api.FlInexact) != inexact {
				t.Fatalf("mode %d, %v and %v: %v, flags %d, error %d, want %v", i, x, y, v, flags, e, op.want)
			}
		}
	}
}

// TestP2_10_ExactDifferences: differences of values that are near each other.
func TestP2_10_ExactDifferences(t *testing.T) {
	for _, f := range smallFormats {
		list := values(t, f)
		for _, a := range list {
			for _, b := range list {
				if a.x.Sign() < 0 || b.x.Sign() < 0 || a.x.Cmp(b.x.Add(b.x)) > 0 || b.x.Cmp(a.x.Add(a.x)) > 0 {
					continue
				}
				for _, mode := range modes {
					w, flags, e := floats.Sub(f, mode, a.w, b.w)
					x, _ := floats.Value(f, w)
					if flags != 0 || e != api.OK || x.Cmp(a.x.Sub(b.x)) != 0 {
						t.Fatalf("%v: %s less %s: %s, flags %d, error %d", f, a.x.Text(), b.x.Text(), x.Text(), flags, e)
					}
				}
			}
		}
	}
}

// TestP2_11_ErrorsOfSums: what a sum differs by is a value.
func TestP2_11_ErrorsOfSums(t *testing.T) {
	for _, f := range smallFormats {
		list := values(t, f)
		for _, a := range list {
			for _, b := range list {
				w, flags, _ := floats.Add(f, api.RnEven, a.w, b.w)
				if flags&api.FlOver != 0 {
					continue
				}
				x, e := floats.Value(f, w)
				if e != api.OK || !floats.Has(f, a.x.Add(b.x).Sub(x)) {
					t.Fatalf("%v: %s plus %s: %s, error %d", f, a.x.Text(), b.x.Text(), x.Text(), e)
				}
			}
		}
	}
}

// TestP2_12_Remainders: at most half of the divisor, and a multiple of it away.
func TestP2_12_Remainders(t *testing.T) {
	for _, f := range smallFormats {
		list := values(t, f)
		for _, a := range list {
			for _, b := range list {
				if b.x.Sign() == 0 {
					continue
				}
				w, flags, e := floats.Rem(f, a.w, b.w)
				x, _ := floats.Value(f, w)
				count, _ := a.x.Sub(x).Quo(b.x)
				if e != api.OK || flags != 0 || x.Add(x).Abs().Cmp(b.x.Abs()) > 0 || !count.IsInt() {
					t.Fatalf("%v: Rem of %s by %s: %s, flags %d, error %d", f, a.x.Text(), b.x.Text(), x.Text(), flags, e)
				}
			}
		}
	}
}

// mirror returns the mode in which the opposite is rounded likewise.
func mirror(mode int) int {
	switch mode {
	case api.RnUp:
		return api.RnDown
	case api.RnDown:
		return api.RnUp
	}
	return mode
}

// turned returns a word with the other sign bit.
func turned(f api.Format, w api.Word) api.Word {
	n := bigOf(w)
	return wordOf(n.SetBit(n, f.E+f.P-1, 1-n.Bit(f.E+f.P-1)))
}

// checkTurned checks that a result is that of the opposite.
func checkTurned(t *testing.T, f api.Format, what string, first, second result) {
	t.Helper()
	if !modelOf(f).decode(first.w).isNaN() {
		first.w = turned(f, first.w)
	}
	if first != second {
		t.Fatalf("%v, %s: %v and %v", f, what, first, second)
	}
}

// TestP2_14_Symmetry: operands in the other order, and with the other signs.
func TestP2_14_Symmetry(t *testing.T) {
	for _, f := range smallFormats[:4] {
		words := allWords(f)
		for _, mode := range modes {
			other := mirror(mode)
			for _, a := range words {
				for _, g := range smallFormats {
					checkTurned(t, g, "Cast", got(floats.Cast(f, g, mode, a)), got(floats.Cast(f, g, other, turned(f, a))))
				}
				for _, b := range words {
					sum, product, quotient := got(floats.Add(f, mode, a, b)), got(floats.Mul(f, mode, a, b)), got(floats.Div(f, mode, a, b))
					if sum != got(floats.Add(f, mode, b, a)) || product != got(floats.Mul(f, mode, b, a)) {
						t.Fatalf("%v: %v and %v in the other order", f, a, b)
					}
					if zero := modelOf(f).decode(sum.w); zero.kind != api.FlZero {
						checkTurned(t, f, "Add", sum, got(floats.Add(f, other, turned(f, a), turned(f, b))))
					}
					checkTurned(t, f, "Mul", product, got(floats.Mul(f, other, turned(f, a), b)))
					checkTurned(t, f, "Div", quotient, got(floats.Div(f, other, a, turned(f, b))))
				}
			}
		}
	}
}

// TestP2_4_Signs: signs of zeros and infinities, one by one.
func TestP2_4_Signs(t *testing.T) {
	for _, row := range []struct {
		op         string
		a, b, want string
		flags      int
	}{
		{"Add", "0", "-0", "0", 0}, {"Add", "-0", "-0", "-0", 0}, {"Add", "inf", "-inf", "nan", api.FlInvalid}, {"Add", "-inf", "1", "-inf", 0},
		{"Sub", "0", "0", "0", 0}, {"Sub", "-0", "0", "-0", 0}, {"Sub", "inf", "inf", "nan", api.FlInvalid}, {"Sub", "1", "inf", "-inf", 0},
		{"Sub", "snan", "1", "nan", api.FlInvalid}, {"Sub", "nan", "1", "nan", 0}, {"Add", "nan", "snan", "nan", api.FlInvalid},
		{"Mul", "0", "-inf", "nan", api.FlInvalid}, {"Mul", "-0", "3", "-0", 0}, {"Mul", "-inf", "-1/16", "inf", 0}, {"Mul", "-1/16", "1/16", "-0", api.FlUnder | api.FlInexact},
		{"Div", "0", "-0", "nan", api.FlInvalid}, {"Div", "inf", "-inf", "nan", api.FlInvalid}, {"Div", "inf", "-0", "-inf", 0}, {"Div", "-1", "0", "-inf", api.FlDivide},
		{"Div", "-0", "3", "-0", 0}, {"Div", "-3", "-inf", "0", 0}, {"Div", "-0", "-inf", "0", 0},
		{"Rem", "inf", "1", "nan", api.FlInvalid}, {"Rem", "1", "0", "nan", api.FlInvalid}, {"Rem", "inf", "0", "nan", api.FlInvalid}, {"Rem", "-0", "3", "-0", 0},
		{"Rem", "-6", "3", "-0", 0}, {"Rem", "-5", "-inf", "-5", 0}, {"Rem", "-0", "inf", "-0", 0}, {"Rem", "0", "0", "nan", api.FlInvalid}, {"Rem", "14", "1/16", "0", 0},
		{"Rem", "nan", "0", "nan", 0}, {"Rem", "inf", "snan", "nan", api.FlInvalid},
	} {
		for _, op := range binaries {
			if op.name == row.op {
				result := got(op.call(example, api.RnEven, wordFor(t, example, row.a), wordFor(t, example, row.b)))
				if result != done(wordFor(t, example, row.want), row.flags) {
					t.Errorf("%s of %s and %s: %v", row.op, row.a, row.b, result)
				}
			}
		}
	}
}

// TestP2_4_FmaSpecial: NaN beside 0 times an infinity, and zeros of both signs.
func TestP2_4_FmaSpecial(t *testing.T) {
	for _, row := range []struct {
		a, b, c, want string
		mode, flags   int
	}{
		{"0", "inf", "nan", "nan", api.RnEven, api.FlInvalid}, {"inf", "-0", "1", "nan", api.RnEven, api.FlInvalid}, {"nan", "inf", "0", "nan", api.RnEven, 0},
		{"0", "nan", "inf", "nan", api.RnEven, 0}, {"1", "1", "snan", "nan", api.RnEven, api.FlInvalid}, {"inf", "1", "-inf", "nan", api.RnEven, api.FlInvalid},
		{"-inf", "1", "14", "-inf", api.RnUp, 0}, {"14", "14", "-inf", "-inf", api.RnEven, 0}, {"-0", "1", "-0", "-0", api.RnUp, 0}, {"-0", "1", "0", "0", api.RnUp, 0},
		{"-0", "1", "0", "-0", api.RnDown, 0}, {"1", "1", "-1", "0", api.RnEven, 0}, {"1", "1", "-1", "-0", api.RnDown, 0},
		{"1/16", "-1/16", "0", "-0", api.RnEven, api.FlUnder | api.FlInexact}, {"1/16", "1/16", "-0", "1/16", api.RnUp, api.FlUnder | api.FlInexact},
		{"14", "14", "-14", "inf", api.RnEven, api.FlOver | api.FlInexact},
	} {
		a, b, c := wordFor(t, example, row.a), wordFor(t, example, row.b), wordFor(t, example, row.c)
		if got := got(floats.Fma(example, row.mode, a, b, c)); got != done(wordFor(t, example, row.want), row.flags) {
			t.Errorf("Fma of %s, %s and %s, mode %d: %v", row.a, row.b, row.c, row.mode, got)
		}
	}
}

// TestP2_4_RemFar: operands with exponents at both ends.
func TestP2_4_RemFar(t *testing.T) {
	f := api.Format{E: 11, P: 113}
	greatest, _ := floats.Greatest(f)
	least, _ := floats.Least(f)
	a, _, _ := floats.Round(f, api.RnEven, greatest)
	b, _, _ := floats.Round(f, api.RnEven, least.Mul(exact.Int(3)))
	m := modelOf(f)
	if got, want := got(floats.Rem(f, a, b)), done(m.rem(m.decode(a), m.decode(b))); got != want {
		t.Errorf("Rem: %v, want %v", got, want)
	}
	if got := got(floats.Rem(f, b, a)); got != done(b, 0) {
		t.Errorf("Rem of a small number by a great one: %v", got)
	}
}
