package floats_test

import (
	"math"
	"testing"

	"vernier/api"
	"vernier/exact"
	"vernier/floats"
)

// call is a call of a function with a format, a mode and words; a function that
// has no mode, or fewer words, does not use them.
type call struct {
	name  string
	mode  bool // has a mode
	words int
	do    func(f api.Format, mode int, a, b, c api.Word) (zero bool, e api.Errno)
}

// numberOf tells whether a number beside an error is 0.
func numberOf(x exact.Num, e api.Errno) (bool, api.Errno) { return x.Sign() == 0, e }

func wordOnly(w api.Word, e api.Errno) (bool, api.Errno) { return w == api.Word{}, e }

func withFlags(w api.Word, flags int, e api.Errno) (bool, api.Errno) {
	return w == api.Word{} && flags == 0, e
}

// calls returns calls of all functions that return an error. Those that have
// errors of their own are given arguments with such an error.
func calls() []call {
	type word = api.Word
	type format = api.Format
	below := exact.Int(-1)
	return []call{
		{"Check", false, 0, func(f format, _ int, _, _, _ word) (bool, api.Errno) { return true, floats.Check(f) }},
		{"Decode", false, 1, func(f format, _ int, a, _, _ word) (bool, api.Errno) {
			v, e := floats.Decode(f, a)
			return v == api.FlVal{}, e
		}},
		{"Encode", false, 0, func(f format, _ int, _, _, _ word) (bool, api.Errno) {
			return wordOnly(floats.Encode(f, api.FlVal{Kind: 9, Val: "x"}))
		}},
		{"Value", false, 1, func(f format, _ int, a, _, _ word) (bool, api.Errno) { return numberOf(floats.Value(f, a)) }},
		{"Text", false, 1, func(f format, _ int, a, _, _ word) (bool, api.Errno) {
			text, e := floats.Text(f, a)
			return text == "", e
		}},
		{"Round", true, 0, func(f format, mode int, _, _, _ word) (bool, api.Errno) {
			return withFlags(floats.Round(f, mode, below))
		}},
		{"Root", true, 0, func(f format, mode int, _, _, _ word) (bool, api.Errno) {
			return withFlags(floats.Root(f, mode, below))
		}},
		{"Near", true, 0, func(f format, mode int, _, _, _ word) (bool, api.Errno) { return numberOf(floats.Near(f, mode, below)) }},
		{"NearRoot", true, 0, func(f format, mode int, _, _, _ word) (bool, api.Errno) {
			return numberOf(floats.NearRoot(f, mode, below))
		}},
		{"Add", true, 2, func(f format, mode int, a, b, _ word) (bool, api.Errno) { return withFlags(floats.Add(f, mode, a, b)) }},
		{"Sub", true, 2, func(f format, mode int, a, b, _ word) (bool, api.Errno) { return withFlags(floats.Sub(f, mode, a, b)) }},
		{"Mul", true, 2, func(f format, mode int, a, b, _ word) (bool, api.Errno) { return withFlags(floats.Mul(f, mode, a, b)) }},
		{"Div", true, 2, func(f format, mode int, a, b, _ word) (bool, api.Errno) { return withFlags(floats.Div(f, mode, a, b)) }},
		{"Rem", false, 2, func(f format, _ int, a, b, _ word) (bool, api.Errno) { return withFlags(floats.Rem(f, a, b)) }},
		{"Sqrt", true, 1, func(f format, mode int, a, _, _ word) (bool, api.Errno) { return withFlags(floats.Sqrt(f, mode, a)) }},
		{"Fma", true, 3, func(f format, mode int, a, b, c word) (bool, api.Errno) {
			return withFlags(floats.Fma(f, mode, a, b, c))
		}},
		{"Cast from", true, 1, func(f format, mode int, a, _, _ word) (bool, api.Errno) {
			return withFlags(floats.Cast(f, example, mode, a))
		}},
		{"Cast to", true, 0, func(f format, mode int, _, _, _ word) (bool, api.Errno) {
			return withFlags(floats.Cast(example, f, mode, word{Lo: 1 << 6}))
		}},
		{"Cmp", false, 2, func(f format, _ int, a, b, _ word) (bool, api.Errno) {
			order, flags, e := floats.Cmp(f, a, b)
			return order == 0 && flags == 0, e
		}},
		{"Next", false, 1, func(f format, _ int, a, _, _ word) (bool, api.Errno) { return wordOnly(floats.Next(f, a, true)) }},
		{"Next down", false, 1, func(f format, _ int, a, _, _ word) (bool, api.Errno) { return wordOnly(floats.Next(f, a, false)) }},
		{"Greatest", false, 0, func(f format, _ int, _, _, _ word) (bool, api.Errno) { return numberOf(floats.Greatest(f)) }},
		{"Least", false, 0, func(f format, _ int, _, _, _ word) (bool, api.Errno) { return numberOf(floats.Least(f)) }},
		{"Normal", false, 0, func(f format, _ int, _, _, _ word) (bool, api.Errno) { return numberOf(floats.Normal(f)) }},
		{"Step", false, 0, func(f format, _ int, _, _, _ word) (bool, api.Errno) {
			huge, _ := exact.Two(5000)
			return numberOf(floats.Step(f, huge))
		}},
		{"Count", false, 0, func(f format, _ int, _, _, _ word) (bool, api.Errno) {
			n, e := floats.Count(f, below, exact.Int(1))
			return n == 0, e
		}},
		{"Nth", false, 0, func(f format, _ int, _, _, _ word) (bool, api.Errno) { return wordOnly(floats.Nth(f, below, -1)) }},
	}
}

// beyond returns words that are none of a format: bits above its highest one.
func beyond(f api.Format) []api.Word {
	width := f.E + f.P
	return []api.Word{wordOf(intTwo(width)), wordOf(intTwo(127)), {Hi: math.MaxUint64, Lo: math.MaxUint64}, wordOf(intTwo(max(width, 64)))}
}

// TestP2_Errors_Formats: formats that are none, in all functions, before any other
// error.
func TestP2_Errors_Formats(t *testing.T) {
	bad := api.Word{Hi: math.MaxUint64, Lo: math.MaxUint64}
	for _, c := range calls() {
		for _, f := range badFormats {
			for _, mode := range append(badModes, modes...) {
				for _, w := range []api.Word{{}, bad} {
					if zero, e := c.do(f, mode, w, w, w); !zero || e != api.ErrArg {
						t.Errorf("%s with the format %v: error %d, zero %v", c.name, f, e, zero)
					}
				}
			}
		}
	}
}

// TestP2_Errors_Modes: modes that are none, before words that are none.
func TestP2_Errors_Modes(t *testing.T) {
	for _, c := range calls() {
		for _, mode := range badModes {
			for _, w := range append(beyond(example), api.Word{}) {
				if zero, e := c.do(example, mode, w, w, w); c.mode && (!zero || e != api.ErrArg) {
					t.Errorf("%s with the mode %d: error %d, zero %v", c.name, mode, e, zero)
				}
			}
		}
	}
}

// TestP2_Errors_Words: words that are none of their format, each operand alone,
// before what a NaN beside them would do.
func TestP2_Errors_Words(t *testing.T) {
	for _, f := range []api.Format{example, {E: 2, P: 3}, {E: 11, P: 53}, {E: 8, P: 56}, {E: 11, P: 113}} {
		nan := wordFor(t, f, "nan")
		for _, c := range calls() {
			for _, w := range beyond(f) {
				for i := range c.words {
					in := [3]api.Word{nan, nan, nan}
					in[i] = w
					if zero, e := c.do(f, api.RnUp, in[0], in[1], in[2]); !zero || e != api.ErrForm {
						t.Errorf("%s with the word %v of %v: error %d, zero %v", c.name, w, f, e, zero)
					}
				}
			}
		}
	}
}

// TestP2_3_Errors: roots of numbers below 0, and numbers that are rounded to
// infinities.
func TestP2_3_Errors(t *testing.T) {
	for _, mode := range modes {
		for _, text := range []string{"-1", "-1/1000000", "-1000000"} {
			if got := got(floats.Root(example, mode, num(t, text))); got != (result{e: api.ErrDomain}) {
				t.Errorf("Root of %s: %v", text, got)
			}
			if x, e := floats.NearRoot(example, mode, num(t, text)); e != api.ErrDomain || x.Sign() != 0 {
				t.Errorf("NearRoot of %s: %s, error %d", text, x.Text(), e)
			}
		}
	}
	if x, e := floats.NearRoot(example, api.RnUp, num(t, "197")); e != api.ErrRange || x.Sign() != 0 {
		t.Errorf("NearRoot of 197: %s, error %d", x.Text(), e)
	}
	if x, e := floats.Near(example, api.RnDown, num(t, "-15")); e != api.ErrRange || x.Sign() != 0 {
		t.Errorf("Near of -15: %s, error %d", x.Text(), e)
	}
}

// TestP1_NoPanic: calls with arguments of all kinds come to an end, and with an
// error the other results are zero.
func TestP1_NoPanic(t *testing.T) {
	ints := []int{math.MinInt, -1, 0, 2, 3, 5, 8, 11, 53, 64, 113, 114, math.MaxInt}
	words := []api.Word{{}, {Lo: 1}, {Lo: 29}, {Lo: 1 << 63}, {Hi: 1}, {Hi: math.MaxUint64, Lo: math.MaxUint64}}
	for _, c := range calls() {
		for _, e := range ints {
			for _, p := range ints {
				for i, w := range words {
					f := api.Format{E: e, P: p}
					if zero, e := c.do(f, i, w, words[0], w); e != api.OK && !zero {
						t.Errorf("%s with %v and %v: error %d, but not zero", c.name, f, w, e)
					}
				}
			}
		}
	}
}
