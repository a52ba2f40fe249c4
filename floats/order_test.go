package floats_test

import (
	"math"
	"math/big"
	"math/rand"
	"testing"

	"vernier/api"
	"vernier/exact"
	"vernier/floats"
)

// line returns where an operand is among all numbers: infinities are at numbers
// beyond all values.
func line(v modelValue) *big.Rat {
	switch {
	case v.kind == api.FlInf && v.neg:
		return new(big.Rat).Neg(ratTwo(2000))
	case v.kind == api.FlInf:
		return ratTwo(2000)
	}
	return v.num
}

// TestP2_5_Cmp: all pairs of words of small formats, and words of wide ones.
func TestP2_5_Cmp(t *testing.T) {
	check := func(f api.Format, a, b api.Word) {
		v, w := modelOf(f).decode(a), modelOf(f).decode(b)
		wantOrder, wantFlags := line(v).Cmp(line(w)), 0
		if v.isNaN() || w.isNaN() {
			wantOrder = api.FlUnordered
		}
		if v.kind == api.FlSignal || w.kind == api.FlSignal {
			wantFlags = api.FlInvalid
		}
		if order, flags, e := floats.Cmp(f, a, b); order != wantOrder || flags != wantFlags || e != api.OK {
			t.Fatalf("Cmp(%v, %v, %v): %d, flags %d, error %d, want %d, flags %d", f, a, b, order, flags, e, wantOrder, wantFlags)
		}
	}
	for _, f := range smallFormats {
		for _, a := range allWords(f) {
			for _, b := range allWords(f) {
				check(f, a, b)
			}
		}
	}
	random := rand.New(rand.NewSource(11))
	for _, f := range wideFormats {
		for range 50 {
			a := randomWord(random, f)
			check(f, a, randomWord(random, f))
			check(f, a, nearWord(random, f, a))
			check(f, a, a)
		}
	}
}

// TestP2_5_Next: along all values of small formats, upwards and downwards.
func TestP2_5_Next(t *testing.T) {
	for _, f := range smallFormats {
		var row []api.Word
		row = append(row, wordFor(t, f, "-inf"))
		for _, v := range values(t, f) {
			row = append(row, v.w)
		}
		row = append(row, wordFor(t, f, "inf"))
		zero := len(row) / 2
		minusZero := wordFor(t, f, "-0")
		expect := func(a api.Word, up bool, want api.Word) {
			if w, e := floats.Next(f, a, up); w != want || e != api.OK {
				t.Errorf("Next(%v, %v, %v): %v, error %d, want %v", f, a, up, w, e, want)
			}
		}
		for i, w := range row {
			switch {
			case i == zero-1:
				expect(w, true, minusZero)
			case i == len(row)-1:
				expect(w, true, w)
			default:
				expect(w, true, row[i+1])
			}
			if i > 0 {
				expect(w, false, row[i-1])
			} else {
				expect(w, false, w)
			}
		}
		expect(minusZero, true, row[zero+1])
		expect(minusZero, false, row[zero-1])
		for _, w := range allWords(f) {
			if modelOf(f).decode(w).isNaN() {
				expectNone(t, f, w)
			}
		}
	}
}

func expectNone(t *testing.T, f api.Format, w api.Word) {
	t.Helper()
	for _, up := range []bool{true, false} {
		if next, e := floats.Next(f, w, up); e != api.ErrNone || (next != api.Word{}) {
			t.Errorf("Next(%v, %v, %v): %v, error %d", f, w, up, next, e)
		}
	}
}

// TestP2_5_NextWide: neighbours whose words differ in the higher half.
func TestP2_5_NextWide(t *testing.T) {
	f := api.Format{E: 11, P: 113}
	below := api.Word{Hi: 5, Lo: math.MaxUint64}
	if w, e := floats.Next(f, below, true); e != api.OK || w != (api.Word{Hi: 6}) {
		t.Errorf("Next up: %v, error %d", w, e)
	}
	if w, e := floats.Next(f, api.Word{Hi: 6}, false); e != api.OK || w != below {
		t.Errorf("Next down: %v, error %d", w, e)
	}
	if w, e := floats.Next(f, turned(f, below), false); e != api.OK || w != turned(f, api.Word{Hi: 6}) {
		t.Errorf("Next down below 0: %v, error %d", w, e)
	}
}

// TestP2_7_Count: counts among all values, from and to numbers everywhere.
func TestP2_7_Count(t *testing.T) {
	for _, f := range smallFormats[:4] {
		list := values(t, f)
		grid := gridAround(t, f)
		for i := 0; i < len(grid); i += 3 {
			for j := 0; j < len(grid); j += 5 {
				lo, hi := grid[i], grid[j]
				var want int64
				for _, v := range list {
					if v.x.Cmp(lo) >= 0 && v.x.Cmp(hi) <= 0 {
						want++
					}
				}
				if n, e := floats.Count(f, lo, hi); n != want || e != api.OK {
					t.Fatalf("Count(%v, %.40s, %.40s): %d, error %d, want %d", f, lo.Text(), hi.Text(), n, e, want)
				}
			}
		}
	}
}

// TestP2_7_Nth: the values from each number of the grid on.
func TestP2_7_Nth(t *testing.T) {
	for _, f := range smallFormats[:4] {
		list := values(t, f)
		for _, lo := range gridAround(t, f) {
			first := 0
			for first < len(list) && list[first].x.Cmp(lo) < 0 {
				first++
			}
			for n := range len(list) - first {
				if w, e := floats.Nth(f, lo, int64(n)); w != list[first+n].w || e != api.OK {
					t.Fatalf("Nth(%v, %.40s, %d): %v, error %d, want %v", f, lo.Text(), n, w, e, list[first+n].w)
				}
			}
			for _, n := range []int64{int64(len(list) - first), int64(len(list)), math.MaxInt64} {
				if w, e := floats.Nth(f, lo, n); e != api.ErrNone || (w != api.Word{}) {
					t.Errorf("Nth(%v, %.40s, %d): %v, error %d", f, lo.Text(), n, w, e)
				}
			}
			for _, n := range []int64{-1, math.MinInt64} {
				if w, e := floats.Nth(f, lo, n); e != api.ErrRange || (w != api.Word{}) {
					t.Errorf("Nth(%v, %.40s, %d): %v, error %d", f, lo.Text(), n, w, e)
				}
			}
		}
	}
}

// TestP2_7_ManyValues: at the limit of counts, and far beyond it.
func TestP2_7_ManyValues(t *testing.T) {
	// From 1 on there are 2^62 steps to 2, and so one value more up to 2.
	f := api.Format{E: 11, P: 63}
	step, _ := exact.Two(-62)
	one, two := exact.Int(1), exact.Int(2)
	if n, e := floats.Count(f, one, two); n != 0 || e != api.ErrLong {
		t.Errorf("2^62 + 1 values: %d, error %d", n, e)
	}
	if n, e := floats.Count(f, one, two.Sub(step)); n != 1<<62 || e != api.OK {
		t.Errorf("2^62 values: %d, error %d", n, e)
	}
	if n, e := floats.Count(f, two.Neg(), one.Neg().Sub(step)); n != 1<<62 || e != api.OK {
		t.Errorf("2^62 values below 0: %d, error %d", n, e)
	}
	w, e := floats.Nth(f, one, 1<<62)
	if x, _ := floats.Value(f, w); e != api.OK || x.Cmp(two) != 0 {
		t.Errorf("Nth of 2^62: %s, error %d", x.Text(), e)
	}
	for _, f := range []api.Format{{E: 11, P: 113}, {E: 11, P: 53}} {
		greatest, _ := floats.Greatest(f)
		if n, e := floats.Count(f, greatest.Neg(), greatest); n != 0 || e != api.ErrLong {
			t.Errorf("all values of %v: %d, error %d", f, n, e)
		}
		if n, e := floats.Count(f, greatest, greatest.Neg()); n != 0 || e != api.OK {
			t.Errorf("from the greatest to the least: %d, error %d", n, e)
		}
	}
}

// TestP2_13_Words: Encode of Decode is tested with Decode; here are Nth of Count,
// and Next there and back.
func TestP2_13_Words(t *testing.T) {
	random := rand.New(rand.NewSource(13))
	for _, f := range smallFormats {
		list := values(t, f)
		for _, lo := range gridAround(t, f) {
			v := list[random.Intn(len(list))]
			if v.x.Cmp(lo) <= 0 {
				continue
			}
			n, _ := floats.Count(f, lo, v.x)
			if w, e := floats.Nth(f, lo, n-1); w != v.w || e != api.OK {
				t.Errorf("%v: Nth of Count, from %.40s to %s: %v, error %d", f, lo.Text(), v.x.Text(), w, e)
			}
		}
		for _, w := range allWords(f) {
			if v := modelOf(f).decode(w); !v.isNaN() {
				checkThereAndBack(t, f, w, v)
			}
		}
	}
	for _, f := range wideFormats {
		for range 50 {
			w := randomWord(random, f)
			if v := modelOf(f).decode(w); !v.isNaN() {
				checkThereAndBack(t, f, w, v)
				checkNthOfCount(t, f, w, random.Int63n(1<<20))
			}
		}
	}
}

// checkThereAndBack checks Next up and then down.
func checkThereAndBack(t *testing.T, f api.Format, w api.Word, v modelValue) {
	t.Helper()
	want := w
	switch {
	case v.kind == api.FlInf && !v.neg:
		want, _ = floats.Next(f, w, false)
	case v.kind == api.FlZero:
		want = api.Word{}
	}
	up, _ := floats.Next(f, w, true)
	if back, e := floats.Next(f, up, false); back != want || e != api.OK {
		t.Errorf("%v: Next of %v, up and down: %v, error %d", f, w, back, e)
	}
}

// checkNthOfCount checks that the count of some values from a word on leads back.
func checkNthOfCount(t *testing.T, f api.Format, w api.Word, n int64) {
	t.Helper()
	lo, e := floats.Value(f, w)
	if e != api.OK {
		return
	}
	there, e := floats.Nth(f, lo, n)
	if e == api.ErrNone {
		return
	}
	hi, _ := floats.Value(f, there)
	if count, e := floats.Count(f, lo, hi); count != n+1 || e != api.OK {
		t.Errorf("%v: Count of Nth of %d: %d, error %d", f, n, count, e)
	}
}
