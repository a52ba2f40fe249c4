package floats_test

import (
	"math/big"
	"math/rand"
	"strings"
	"testing"

	"vernier/api"
	"vernier/exact"
	"vernier/floats"
)

var modes = []int{api.RnEven, api.RnAway, api.RnTrunc, api.RnUp, api.RnDown}

// example is the format of the chapter's examples.
var example = api.Format{E: 3, P: 3}

// smallFormats are formats all words of which are tried. The first three are the
// least ones.
var smallFormats = []api.Format{{E: 2, P: 3}, {E: 3, P: 2}, {E: 2, P: 4}, example, {E: 4, P: 2}, {E: 3, P: 4}}

// wideFormats are formats whose words are tried at random; half, single and double
// of the hardware, and formats at the limits.
var wideFormats = []api.Format{
	{E: 5, P: 11}, {E: 8, P: 8}, {E: 8, P: 24}, {E: 11, P: 53}, {E: 2, P: 113}, {E: 11, P: 2},
	{E: 11, P: 113}, {E: 10, P: 64}, {E: 9, P: 63}, {E: 11, P: 65}, {E: 4, P: 62}, {E: 5, P: 60},
}

var badFormats = []api.Format{{}, {E: 1, P: 5}, {E: 12, P: 5}, {E: 5, P: 1}, {E: 5, P: 114}, {E: 2, P: 2}, {E: -3, P: 10}, {E: 64, P: 64}, {E: -1 << 63, P: 1<<63 - 1}}

var badModes = []int{-1, 5, 1 << 40, -1 << 63}

// num returns the number of a text.
func num(t testing.TB, text string) exact.Num {
	t.Helper()
	x, e := exact.Parse(api.Rat(text))
	if e != api.OK {
		t.Fatalf("Parse(%.40s): error %d", text, e)
	}
	return x
}

// toBig returns the number as one of the library.
func toBig(t testing.TB, x exact.Num) *big.Rat {
	t.Helper()
	r, ok := new(big.Rat).SetString(string(x.Text()))
	if !ok {
		t.Fatalf("no number: %.40s", x.Text())
	}
	return r
}

func textOf(r *big.Rat) string { return strings.TrimSuffix(r.String(), "/1") }

// fromBig returns a number of the library as one of the program, piece by piece,
// as its text may be too long.
func fromBig(t testing.TB, r *big.Rat) exact.Num {
	t.Helper()
	whole := func(n *big.Int) exact.Num {
		var out exact.Num
		rest := new(big.Int).Abs(n)
		for at := 0; rest.Sign() > 0; at += 32 {
			piece := new(big.Int).And(rest, big.NewInt(1<<32-1))
			x, _ := exact.Int(piece.Int64()).Shift(at)
			out = out.Add(x)
			rest.Rsh(rest, 32)
		}
		if n.Sign() < 0 {
			return out.Neg()
		}
		return out
	}
	x, e := whole(r.Num()).Quo(whole(r.Denom()))
	if e != api.OK {
		t.Fatalf("error %d", e)
	}
	return x
}

// allWords returns all words of a small format.
func allWords(f api.Format) []api.Word {
	var out []api.Word
	for i := range uint64(1) << (f.E + f.P) {
		out = append(out, api.Word{Lo: i})
	}
	return out
}

// randomWord returns a word of a format; often one near the ends of a row of
// fields or fractions.
func randomWord(random *rand.Rand, f api.Format) api.Word {
	bit := func(p int) uint {
		if random.Intn(100) < p {
			return 1
		}
		return 0
	}
	n := new(big.Int)
	chances := []int{0, 2, 50, 98, 100}
	field, fraction := chances[random.Intn(5)], chances[random.Intn(5)]
	for i := range f.P - 1 {
		n.SetBit(n, i, bit(fraction))
	}
	if random.Intn(2) == 0 {
		field = 50
	}
	for i := range f.E {
		n.SetBit(n, f.P-1+i, bit(field))
	}
	n.SetBit(n, f.E+f.P-1, bit(50))
	return wordOf(n)
}

// nearWord returns a finite word whose exponent is near that of w, so that sums
// of both need rounding or cancel.
func nearWord(random *rand.Rand, f api.Format, w api.Word) api.Word {
	m := modelOf(f)
	n := bigOf(w)
	n.SetBit(n, f.E+f.P-1, 0)
	far := new(big.Int).Rand(random, intTwo(min(f.P+2, f.P-1+f.E)))
	n.Add(n, far).Sub(n, intTwo(f.P))
	if n.Sign() < 0 || n.Cmp(m.infinity()) >= 0 {
		return randomWord(random, f)
	}
	return m.word(random.Intn(2) == 0, n)
}

// value is a word with its number.
type value struct {
	w api.Word
	x exact.Num
}

// values returns the values of a small format, ascending; 0 has the word +0.
func values(t testing.TB, f api.Format) []value {
	t.Helper()
	m := modelOf(f)
	var below, above []value
	for w := (api.Word{}); bigOf(w).Cmp(m.infinity()) < 0; w.Lo++ {
		x := fromBig(t, m.size(bigOf(w)))
		above = append(above, value{w, x})
		if w.Lo > 0 {
			below = append([]value{{m.word(true, bigOf(w)), x.Neg()}}, below...)
		}
	}
	return append(below, above...)
}

// gridAround returns numbers that lie everywhere among the values of a small
// format and somewhat beyond: the values, the middles of neighbours, and numbers
// near both.
func gridAround(t testing.TB, f api.Format) []exact.Num {
	t.Helper()
	list := values(t, f)
	greatest := list[len(list)-1].x
	beyond := greatest.Mul(num(t, "5/4")).Mul(greatest)
	marks := []exact.Num{beyond.Neg()}
	for _, v := range list {
		marks = append(marks, v.x)
	}
	top := greatest.Mul(num(t, "2")).Sub(list[len(list)-2].x) // where one more value would be
	marks = append(marks, top, top.Mul(num(t, "3/2")), beyond)
	marks = append([]exact.Num{top.Mul(num(t, "-3/2")), top.Neg()}, marks...)
	parts := []string{"0", "1/1000000000", "1/3", "1/2", "500000001/1000000000", "499999999/1000000000", "2/3", "999999999/1000000000"}
	var out []exact.Num
	for i := range len(marks) - 1 {
		for _, part := range parts {
			step := marks[i+1].Sub(marks[i])
			out = append(out, marks[i].Add(step.Mul(num(t, part))))
		}
	}
	for _, k := range []int{-20000, -1200, 1200, 20000} {
		far, _ := exact.Two(k)
		out = append(out, far, far.Neg(), far.Mul(num(t, "7/3")), far.Mul(num(t, "-7/3")))
	}
	return append(out, beyond)
}

// result is what a call with a word and flags returned.
type result struct {
	w     api.Word
	flags int
	e     api.Errno
}

func got(w api.Word, flags int, e api.Errno) result { return result{w, flags, e} }

func done(w api.Word, flags int) result { return result{w, flags, api.OK} }

// wordFor returns the word of a text: that of a number, or nan, snan, inf, -inf
// or -0.
func wordFor(t testing.TB, f api.Format, text string) api.Word {
	t.Helper()
	m := modelOf(f)
	switch text {
	case "nan":
		return m.nan()
	case "snan":
		n := m.infinity()
		return wordOf(n.Add(n, big.NewInt(1)))
	case "inf", "-inf":
		return m.word(text == "-inf", m.infinity())
	case "-0":
		return m.word(true, new(big.Int))
	}
	w, flags := m.round(api.RnEven, toBig(t, num(t, text)))
	if flags != 0 {
		t.Fatalf("%s is no value of %v", text, f)
	}
	return w
}

// textFor returns the text of a word.
func textFor(t testing.TB, f api.Format, w api.Word) string {
	t.Helper()
	text, e := floats.Text(f, w)
	if e != api.OK {
		t.Fatalf("Text(%v, %v): error %d", f, w, e)
	}
	return text
}
