package reals_test

import (
	"math/rand"
	"testing"

	"vernier/api"
	"vernier/exact"
	"vernier/floats"
	"vernier/reals"
)

var formats = []api.Format{{E: 3, P: 3}, {E: 2, P: 3}, {E: 3, P: 2}, {E: 4, P: 4}, {E: 5, P: 11}, {E: 11, P: 53}, {E: 11, P: 113}}

// rounded is a word with its flags.
type rounded struct {
	w     api.Word
	flags int
}

func expectRounded(t *testing.T, what string, want rounded) func(api.Word, int, api.Errno) {
	return func(w api.Word, flags int, e api.Errno) {
		t.Helper()
		if e != api.OK || w != want.w || flags != want.flags {
			t.Errorf("%s: %v, flags %d, error %d, want %v", what, w, flags, e, want)
		}
	}
}

func roundedNum(f api.Format, mode int, x exact.Num) rounded {
	w, flags, _ := floats.Round(f, mode, x)
	return rounded{w, flags}
}

// everyRounding calls a function with each format and mode.
func everyRounding(do func(f api.Format, mode int)) {
	for _, f := range formats {
		for _, mode := range modes {
			do(f, mode)
		}
	}
}

// TestP3_10_Plain: plain nodes are rounded as their values, roots as package floats
// rounds them, and sums of a root and its negative as 0.
func TestP3_10_Plain(t *testing.T) {
	random := rand.New(rand.NewSource(14))
	texts := []string{"0", "1", "2", "9/4", "14", "15", "16", "29/2", "196", "197", "225", "255", "256", "1/16", "1/256", "1/1024", "9/1024", "1/3", "1/1000000", "1000000", "81/4", "121/4"}
	for range 60 {
		texts = append(texts, string(exact.Int(random.Int63n(1<<random.Intn(20)+1)+1).Mul(two(t, random.Intn(20)-14)).Text()))
	}
	for _, text := range texts {
		l := list(t, text+"; neg 0; sqrt 0; neg 2; 2; sqrt 4; 5 less 5; 6 plus 0; 6 plus 1; neg 6")
		x := num(t, text)
		everyRounding(func(f api.Format, mode int) {
			expectRounded(t, text, roundedNum(f, mode, x))(reals.Round(l, 0, f, mode))
			expectRounded(t, "-"+text, roundedNum(f, mode, x.Neg()))(reals.Round(l, 1, f, mode))
			w, flags, _ := floats.Root(f, mode, x)
			expectRounded(t, "the root of "+text, rounded{w, flags})(reals.Round(l, 2, f, mode))
			expectRounded(t, "0, which is not plain", rounded{})(reals.Round(l, 6, f, mode))
			expectRounded(t, text+", which is not plain", roundedNum(f, mode, x))(reals.Round(l, 7, f, mode))
			expectRounded(t, "-"+text+", which is not plain", roundedNum(f, mode, x.Neg()))(reals.Round(l, 8, f, mode))
			expectRounded(t, "the negative of 0", rounded{})(reals.Round(l, 9, f, mode))
		})
	}
}

// TestP3_10_Near: a value, or the middle of two values, is rounded as it is; what is
// very near to it, above or below, as what is less near.
func TestP3_10_Near(t *testing.T) {
	// Node 8 is root(2) - 1 to the power 256, which is above 0 and below 2^-325.
	start := "2; sqrt 0; 1; 1 less 2; 3 times 3; 4 times 4; 5 times 5; 6 times 6; 7 times 7; 8 times 8; 9 times 9; 10 times 10; "
	less := two(t, -300)
	for _, text := range []string{"0", "1/16", "1/32", "3/32", "1/4", "7/32", "1", "9/8", "11/8", "5", "9/2", "11/2", "12", "13", "14", "15", "16", "-1/32", "-3/32", "-1/4", "-9/8", "-15", "-16", "31/8", "-1", "65504", "65519", "65520", "1/16777216", "1/33554432", "1/16384"} {
		l := list(t, start+text+"; 12 plus 11; 12 less 11")
		x := num(t, text)
		everyRounding(func(f api.Format, mode int) {
			if f.E == 11 { // its least values are not above what is added
				return
			}
			expectRounded(t, text+" and more", roundedNum(f, mode, x.Add(less)))(reals.Round(l, 13, f, mode))
			expectRounded(t, text+" and less", roundedNum(f, mode, x.Sub(less)))(reals.Round(l, 14, f, mode))
		})
	}
}

// TestP3_6_RoundErrors: formats that are none, and modes.
func TestP3_6_RoundErrors(t *testing.T) {
	l := list(t, "1; 2; sqrt 1; -1; sqrt 3")
	half := api.Format{E: 5, P: 11}
	for _, row := range []struct {
		f    api.Format
		mode int
	}{{api.Format{}, 0}, {api.Format{E: 2, P: 2}, 0}, {api.Format{E: 12, P: 11}, 0}, {api.Format{E: 5, P: 114}, 0}, {api.Format{E: 5, P: -1 << 63}, 0}, {half, -1}, {half, 5}, {half, 1 << 62}} {
		for i, want := range []api.Errno{api.ErrArg, api.ErrArg, api.ErrArg, api.ErrArg, api.ErrDomain} {
			if w, flags, e := reals.Round(l, i, row.f, row.mode); e != want || (w != api.Word{}) || flags != 0 {
				t.Errorf("Round of %d to %v, mode %d: %v, flags %d, error %d", i, row.f, row.mode, w, flags, e)
			}
		}
	}
}
