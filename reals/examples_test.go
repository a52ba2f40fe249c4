package reals_test

import (
	"slices"
	"testing"

	"vernier/api"
	"vernier/exact"
	"vernier/reals"
)

func expectInt(t *testing.T, what string, want int, wantE api.Errno) func(int, api.Errno) {
	return func(n int, e api.Errno) {
		t.Helper()
		if n != want || e != wantE {
			t.Errorf("%s: %d, error %d, want %d, error %d", what, n, e, want, wantE)
		}
	}
}

func expectNum(t *testing.T, what, want string) func(exact.Num, api.Errno) {
	return func(x exact.Num, e api.Errno) {
		t.Helper()
		if e != api.OK || string(x.Text()) != want {
			t.Errorf("%s: %.80s, error %d, want %.80s", what, x.Text(), e, want)
		}
	}
}

func expectSpan(t *testing.T, what, wantLo, wantHi string) func(lo, hi exact.Num, e api.Errno) {
	return func(lo, hi exact.Num, e api.Errno) {
		t.Helper()
		if e != api.OK || string(lo.Text()) != wantLo || string(hi.Text()) != wantHi {
			t.Errorf("%s: %.80s and %.80s, error %d", what, lo.Text(), hi.Text(), e)
		}
	}
}

func expectRational(t *testing.T, what, want string, wantPlain bool, wantE api.Errno) func(exact.Num, bool, api.Errno) {
	return func(x exact.Num, plain bool, e api.Errno) {
		t.Helper()
		if string(x.Text()) != want || plain != wantPlain || e != wantE {
			t.Errorf("%s: %.80s, %v, error %d", what, x.Text(), plain, e)
		}
	}
}

func expectRoots(t *testing.T, what string, want []int, wantE api.Errno) func([]int, api.Errno) {
	return func(roots []int, e api.Errno) {
		t.Helper()
		if !slices.Equal(roots, want) || e != wantE {
			t.Errorf("%s: %v, error %d, want %v, error %d", what, roots, e, want, wantE)
		}
	}
}

func expectWord(t *testing.T, what string, want uint64, wantFlags int) func(api.Word, int, api.Errno) {
	return func(w api.Word, flags int, e api.Errno) {
		t.Helper()
		if e != api.OK || w != (api.Word{Lo: want}) || flags != wantFlags {
			t.Errorf("%s: %v, flags %d, error %d", what, w, flags, e)
		}
	}
}

func expectIs(t *testing.T, what string, want bool, wantE api.Errno) func(bool, api.Errno) {
	return func(is bool, e api.Errno) {
		t.Helper()
		if is != want || e != wantE {
			t.Errorf("%s: %v, error %d", what, is, e)
		}
	}
}

// TestP3_Examples_Values: the chapter's rows of values and places.
func TestP3_Examples_Values(t *testing.T) {
	l := list(t, "2; sqrt 0; 1 times 1; 2 less 0")
	expectRational(t, "root 2 squared", "0", false, api.OK)(reals.Rational(l, 2))
	expectInt(t, "root 2 squared, less 2", 0, api.OK)(reals.Sign(l, 3))
	expectRoots(t, "root 2 squared, less 2", []int{1}, api.OK)(reals.Roots(l, 3))
	expectInt(t, "its weight", 3, api.OK)(reals.Weight(l, 3))

	l = list(t, "9/4; sqrt 0")
	expectRational(t, "root 9/4", "3/2", true, api.OK)(reals.Rational(l, 1))
	expectRoots(t, "root 9/4", nil, api.OK)(reals.Roots(l, 1))

	l = list(t, "2; sqrt 0; neg 1")
	expectNum(t, "Floor of root 2", "1")(reals.Floor(l, 1, 0))
	expectNum(t, "Floor of root 2 with 3", "11")(reals.Floor(l, 1, 3))
	expectSpan(t, "root 2", "11/8", "3/2")(reals.Enclose(l, 1, 4))
	expectInt(t, "Log of root 2", 0, api.OK)(reals.Log(l, 1))
	expectNum(t, "Floor of -root 2", "-2")(reals.Floor(l, 2, 0))
	expectSpan(t, "-root 2", "-3/2", "-11/8")(reals.Enclose(l, 2, 4))
	f := api.Format{E: 3, P: 3}
	expectWord(t, "root 2, to the nearest", 14, api.FlInexact)(reals.Round(l, 1, f, api.RnEven))
	expectWord(t, "root 2, down", 13, api.FlInexact)(reals.Round(l, 1, f, api.RnDown))
	expectIs(t, "root 2 within 1/50 of 7/5", true, api.OK)(reals.Within(l, 1, num(t, "7/5"), num(t, "1/50")))
	expectIs(t, "root 2 within 1/100 of 7/5", false, api.OK)(reals.Within(l, 1, num(t, "7/5"), num(t, "1/100")))
}

// TestP3_Examples_Signs: the chapter's rows of signs and errors.
func TestP3_Examples_Signs(t *testing.T) {
	l := list(t, "2; 3; sqrt 0; sqrt 1; 2 times 3; 4 plus 4; 0 plus 1; 6 plus 5; sqrt 7; 2 plus 3; 8 less 9")
	expectInt(t, "the nested root, less two roots", 0, api.OK)(reals.Sign(l, 10))
	expectInt(t, "the nested root and two roots", 0, api.OK)(reals.Cmp(l, 8, 9))
	expectInt(t, "root 2 and root 3", -1, api.OK)(reals.Cmp(l, 2, 3))

	l = list(t, "2; 0 less 0; 0 by 1")
	expectInt(t, "2 by 0", 0, api.ErrZero)(reals.Sign(l, 2))
	expectInt(t, "2 less 2", 0, api.OK)(reals.Sign(l, 1))

	l = list(t, "-1; sqrt 0")
	expectInt(t, "root -1", 0, api.ErrDomain)(reals.Sign(l, 1))
	expectInt(t, "the list of root -1", 0, api.OK)(reals.Check(l))

	l = list(t, "2; 3; 5; 7; sqrt 0; sqrt 1; sqrt 2; sqrt 3; 4 plus 5; 8 plus 6; 9 plus 7")
	expectInt(t, "three roots", 1, api.OK)(reals.Sign(l, 9))
	expectInt(t, "four roots", 0, api.ErrLong)(reals.Sign(l, 10))
	expectInt(t, "three roots and another one", 0, api.ErrLong)(reals.Cmp(l, 9, 7))

	expectInt(t, "5 plus 0", 1, api.ErrRange)(reals.Check(list(t, "2; 5 plus 0")))
}
