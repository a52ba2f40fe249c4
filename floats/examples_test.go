package floats_test

import (
	"testing"

	"vernier/api"
	"vernier/exact"
	"vernier/floats"
)

// TestP2_Examples_Decode: the chapter's first row.
func TestP2_Examples_Decode(t *testing.T) {
	for word, want := range map[uint64]api.FlVal{
		12: {Kind: api.FlFinite, Val: "1"},
		44: {Kind: api.FlFinite, Neg: true, Val: "-1"},
		28: {Kind: api.FlInf, Val: "0"},
		30: {Kind: api.FlQuiet, Val: "0"},
		29: {Kind: api.FlSignal, Val: "1"},
		32: {Kind: api.FlZero, Neg: true, Val: "0"},
	} {
		if v, e := floats.Decode(example, api.Word{Lo: word}); v != want || e != api.OK {
			t.Errorf("Decode(%d): %v, error %d", word, v, e)
		}
	}
}

// TestP2_Examples_Numbers: the greatest value, the least ones, and steps.
func TestP2_Examples_Numbers(t *testing.T) {
	expect := func(what, want string) func(exact.Num, api.Errno) {
		return func(x exact.Num, e api.Errno) {
			t.Helper()
			if e != api.OK || string(x.Text()) != want {
				t.Errorf("%s: %s, error %d", what, x.Text(), e)
			}
		}
	}
	expect("Greatest", "14")(floats.Greatest(example))
	expect("Least", "1/16")(floats.Least(example))
	expect("Normal", "1/4")(floats.Normal(example))
	expect("Step at 5", "1")(floats.Step(example, num(t, "5")))
	expect("Step at 0", "1/16")(floats.Step(example, num(t, "0")))
}

// TestP2_Examples_Round: the chapter's rows of numbers that are rounded.
func TestP2_Examples_Round(t *testing.T) {
	const over, under = api.FlOver | api.FlInexact, api.FlUnder | api.FlInexact
	for _, row := range []struct {
		x     string
		mode  int
		want  string
		flags int
	}{
		{"1/3", api.RnEven, "5/16", api.FlInexact}, {"1/3", api.RnUp, "3/8", api.FlInexact}, {"11/2", api.RnEven, "6", api.FlInexact}, {"11/2", api.RnAway, "6", api.FlInexact},
		{"9/2", api.RnEven, "4", api.FlInexact}, {"9/2", api.RnAway, "5", api.FlInexact},
		{"15", api.RnEven, "inf", over}, {"16", api.RnTrunc, "14", over}, {"-17", api.RnUp, "-14", over},
		{"15", api.RnTrunc, "14", api.FlInexact}, {"-15", api.RnUp, "-14", api.FlInexact}, {"29/2", api.RnEven, "14", api.FlInexact},
		{"1/40", api.RnEven, "0", under}, {"-1/40", api.RnUp, "-0", under}, {"-1/100", api.RnEven, "-0", under},
	} {
		w, flags, e := floats.Round(example, row.mode, num(t, row.x))
		if e != api.OK || flags != row.flags || textFor(t, example, w) != row.want {
			t.Errorf("Round(%s, %d): %s, flags %d, error %d", row.x, row.mode, textFor(t, example, w), flags, e)
		}
	}
}

// TestP2_Examples_Operations: the chapter's rows of operations.
func TestP2_Examples_Operations(t *testing.T) {
	word := func(text string) api.Word { return wordFor(t, example, text) }
	expect := func(what string, result result, want string, flags int) {
		t.Helper()
		if result != done(word(want), flags) {
			t.Errorf("%s: %v", what, result)
		}
	}
	expect("1 and -1", got(floats.Add(example, api.RnEven, word("1"), word("-1"))), "0", 0)
	expect("1 and -1, down", got(floats.Add(example, api.RnDown, word("1"), word("-1"))), "-0", 0)
	expect("1 by -0", got(floats.Div(example, api.RnEven, word("1"), word("-0"))), "-inf", api.FlDivide)
	expect("root of -0", got(floats.Sqrt(example, api.RnEven, word("-0"))), "-0", 0)
	expect("root of -1", got(floats.Sqrt(example, api.RnEven, word("-1"))), "nan", api.FlInvalid)
	expect("5 by 2", got(floats.Rem(example, word("5"), word("2"))), "1", 0)
	expect("7 by 2", got(floats.Rem(example, word("7"), word("2"))), "-1", 0)
	expect("-6 by 4", got(floats.Rem(example, word("-6"), word("4"))), "2", 0)
	expect("5/4, 5/4 and -3/2", got(floats.Fma(example, api.RnEven, word("5/4"), word("5/4"), word("-3/2"))), "1/16", 0)
}

// TestP2_Examples_Order: the chapter's rows of neighbours, counts and places.
func TestP2_Examples_Order(t *testing.T) {
	for _, row := range []struct {
		a    string
		up   bool
		want string
	}{{"14", true, "inf"}, {"0", false, "-1/16"}, {"-1/16", true, "-0"}} {
		if w, e := floats.Next(example, wordFor(t, example, row.a), row.up); e != api.OK || textFor(t, example, w) != row.want {
			t.Errorf("Next(%s): %v, error %d", row.a, w, e)
		}
	}
	if n, e := floats.Count(example, num(t, "-1/8"), num(t, "1/8")); n != 5 || e != api.OK {
		t.Errorf("Count from -1/8 to 1/8: %d, error %d", n, e)
	}
	if w, e := floats.Nth(example, num(t, "-1/8"), 2); (w != api.Word{}) || e != api.OK {
		t.Errorf("Nth of -1/8 and 2: %v, error %d", w, e)
	}
	if w, e := floats.Nth(example, num(t, "13"), 1); (w != api.Word{}) || e != api.ErrNone {
		t.Errorf("Nth of 13 and 1: %v, error %d", w, e)
	}
}
