package floats_test

import (
	"math"
	"math/big"
	"math/rand"
	"testing"

	"vernier/api"
	"vernier/exact"
	"vernier/floats"
)

// TestP2_1_Check: formats at, inside and beyond all limits.
func TestP2_1_Check(t *testing.T) {
	for _, e := range []int{math.MinInt, -5, 0, 1, 2, 3, 4, 10, 11, 12, 13, 1 << 33, math.MaxInt} {
		for _, p := range []int{math.MinInt, -5, 0, 1, 2, 3, 4, 53, 112, 113, 114, 115, 1 << 33, math.MaxInt} {
			want := api.ErrArg
			if e >= 2 && e <= 11 && p >= 2 && p <= 113 && e+p >= 5 {
				want = api.OK
			}
			if got := floats.Check(api.Format{E: e, P: p}); got != want {
				t.Errorf("Check(%d, %d): %d, want %d", e, p, got, want)
			}
		}
	}
}

// TestP2_1_DecodeSmall: all words of small formats, by the table.
func TestP2_1_DecodeSmall(t *testing.T) {
	for _, f := range smallFormats {
		for _, w := range allWords(f) {
			checkDecode(t, f, w)
		}
	}
}

// TestP2_1_DecodeWide: words of wide formats.
func TestP2_1_DecodeWide(t *testing.T) {
	random := rand.New(rand.NewSource(2))
	for _, f := range wideFormats {
		for range 200 {
			checkDecode(t, f, randomWord(random, f))
		}
	}
}

// checkDecode checks Decode, Encode and Value of a word (also P2.13).
func checkDecode(t *testing.T, f api.Format, w api.Word) {
	t.Helper()
	want := modelOf(f).decode(w)
	v, e := floats.Decode(f, w)
	if e != api.OK || v.Kind != want.kind || v.Neg != want.neg || string(v.Val) != textOf(want.num) {
		t.Fatalf("Decode(%v, %v): %v, error %d, want %v", f, w, v, e, want)
	}
	if back, e := floats.Encode(f, v); e != api.OK || back != w {
		t.Fatalf("Encode(%v, %v): %v, error %d, want %v", f, v, back, e, w)
	}
	x, e := floats.Value(f, w)
	if want.kind > api.FlFinite {
		if e != api.ErrNone || x.Sign() != 0 {
			t.Fatalf("Value(%v, %v): %s, error %d", f, w, x.Text(), e)
		}
	} else if e != api.OK || x.Text() != v.Val {
		t.Fatalf("Value(%v, %v): %s, error %d", f, w, x.Text(), e)
	}
}

// TestP2_1_EncodeOnly: no other value has a word. All values near to valid ones
// are decoded words, or have the error.
func TestP2_1_EncodeOnly(t *testing.T) {
	for _, f := range smallFormats {
		known := map[api.FlVal]api.Word{}
		for _, w := range allWords(f) {
			v, _ := floats.Decode(f, w)
			known[v] = w
		}
		texts := []api.Rat{"", "x", "+1", "-0", "00", "2/4", "1/1", " 1", "1e3"}
		for a := int64(-300); a <= 300; a++ {
			for _, b := range []int64{1, 2, 3, 8, 16, 64} {
				x, _ := exact.Ratio(a, b)
				texts = append(texts, x.Text())
			}
		}
		for kind := -1; kind <= 6; kind++ {
			for _, text := range texts {
				for _, neg := range []bool{false, true} {
					checkEncode(t, f, api.FlVal{Kind: kind, Neg: neg, Val: text}, known)
				}
			}
		}
	}
}

func checkEncode(t *testing.T, f api.Format, v api.FlVal, known map[api.FlVal]api.Word) {
	t.Helper()
	w, e := floats.Encode(f, v)
	want, is := known[v]
	if is && (e != api.OK || w != want) || !is && (e != api.ErrForm || w != api.Word{}) {
		t.Errorf("Encode(%v, %v): %v, error %d, want %v, %v", f, v, w, e, want, is)
	}
}

// TestP2_1_EncodeWide: payloads at the limits of wide formats, and long texts.
func TestP2_1_EncodeWide(t *testing.T) {
	f := api.Format{E: 11, P: 113}
	quiet := intTwo(111)
	limit, last := api.Rat(quiet.String()), api.Rat(new(big.Int).Sub(quiet, big.NewInt(1)).String())
	for _, kind := range []int{api.FlQuiet, api.FlSignal} {
		if _, e := floats.Encode(f, api.FlVal{Kind: kind, Val: limit}); e != api.ErrForm {
			t.Errorf("a payload beyond the last: error %d", e)
		}
		w, e := floats.Encode(f, api.FlVal{Kind: kind, Neg: true, Val: last})
		if v := modelOf(f).decode(w); e != api.OK || v.kind != kind || !v.neg || textOf(v.num) != string(last) {
			t.Errorf("the last payload: %v, error %d", v, e)
		}
	}
	long := make([]byte, 2001)
	for i := range long {
		long[i] = '7'
	}
	for kind := range 7 {
		if w, e := floats.Encode(f, api.FlVal{Kind: kind, Val: api.Rat(long)}); e != api.ErrForm || (w != api.Word{}) {
			t.Errorf("a long text, kind %d: %v, error %d", kind, w, e)
		}
	}
}

// TestP2_2_Text: the texts of all words of small formats.
func TestP2_2_Text(t *testing.T) {
	for _, f := range smallFormats {
		for _, w := range allWords(f) {
			v := modelOf(f).decode(w)
			want := textOf(v.num)
			switch {
			case v.kind == api.FlZero && v.neg:
				want = "-0"
			case v.kind == api.FlInf && v.neg:
				want = "-inf"
			case v.kind == api.FlInf:
				want = "inf"
			case v.kind == api.FlQuiet:
				want = "nan"
			case v.kind == api.FlSignal:
				want = "snan"
			}
			if got := textFor(t, f, w); got != want {
				t.Errorf("Text(%v, %v): %s, want %s", f, w, got, want)
			}
		}
	}
}

// TestP2_2_Has: the values of small formats, and no other numbers.
func TestP2_2_Has(t *testing.T) {
	for _, f := range smallFormats {
		known := map[api.Rat]bool{}
		for _, v := range values(t, f) {
			known[v.x.Text()] = true
		}
		for _, x := range gridAround(t, f) {
			if floats.Has(f, x) != known[x.Text()] {
				t.Errorf("Has(%v, %.40s): %v", f, x.Text(), !known[x.Text()])
			}
		}
	}
	for _, f := range badFormats {
		if floats.Has(f, exact.Num{}) || floats.Has(f, exact.Int(1)) {
			t.Errorf("Has of %v, which is no format", f)
		}
	}
}

// TestP2_2_Inside: whether each value is one of the other format.
func TestP2_2_Inside(t *testing.T) {
	var formats []api.Format
	for e := 2; e <= 5; e++ {
		for p := 2; p <= 7; p++ {
			if e+p >= 5 {
				formats = append(formats, api.Format{E: e, P: p})
			}
		}
	}
	for _, f := range formats {
		list := values(t, f)
		for _, g := range formats {
			want := true
			for _, v := range list {
				want = want && floats.Has(g, v.x)
			}
			if floats.Inside(f, g) != want {
				t.Errorf("Inside(%v, %v): %v", f, g, !want)
			}
		}
		for _, bad := range badFormats {
			if floats.Inside(f, bad) || floats.Inside(bad, f) || floats.Inside(bad, bad) {
				t.Errorf("Inside of %v, which is no format", bad)
			}
		}
	}
}

// TestP2_15_WiderFormats: Inside by the least and the greatest value, and casts
// there and back.
func TestP2_15_WiderFormats(t *testing.T) {
	random := rand.New(rand.NewSource(15))
	formats := append(append([]api.Format{}, smallFormats...), wideFormats...)
	for _, f := range formats {
		least, _ := floats.Least(f)
		greatest, _ := floats.Greatest(f)
		for _, g := range formats {
			inside := floats.Has(g, least) && floats.Has(g, greatest) && f.P <= g.P
			if floats.Inside(f, g) != inside {
				t.Errorf("Inside(%v, %v): %v", f, g, !inside)
			}
			for range 20 {
				w := randomWord(random, f)
				if inside && modelOf(f).decode(w).kind <= api.FlFinite {
					checkBack(t, f, g, modes[random.Intn(5)], w)
				}
			}
		}
	}
}

// checkBack casts a number to a wider format and back.
func checkBack(t *testing.T, f, g api.Format, mode int, w api.Word) {
	t.Helper()
	there, flags, e := floats.Cast(f, g, mode, w)
	if flags != 0 || e != api.OK || textFor(t, g, there) != textFor(t, f, w) {
		t.Errorf("Cast(%v, %v, %v): %v, flags %d, error %d", f, g, w, there, flags, e)
	}
	if back := got(floats.Cast(g, f, mode, there)); back != done(w, 0) {
		t.Errorf("Cast(%v, %v, %v) back: %v", f, g, w, back)
	}
}

// TestP2_6_Ends: Greatest, Least and Normal are those of the values; all formats.
func TestP2_6_Ends(t *testing.T) {
	for e := 2; e <= 11; e++ {
		for _, p := range []int{2, 3, 4, 11, 24, 53, 62, 63, 64, 65, 112, 113} {
			if e+p < 5 {
				continue
			}
			f := api.Format{E: e, P: p}
			m := modelOf(f)
			last := m.infinity()
			last.Sub(last, big.NewInt(1))
			expectNum(t, "Greatest", f, m.size(last))(floats.Greatest(f))
			expectNum(t, "Least", f, m.size(big.NewInt(1)))(floats.Least(f))
			expectNum(t, "Normal", f, m.size(intTwo(p-1)))(floats.Normal(f))
		}
	}
}

func expectNum(t *testing.T, what string, f api.Format, want *big.Rat) func(exact.Num, api.Errno) {
	return func(x exact.Num, e api.Errno) {
		t.Helper()
		if e != api.OK || string(x.Text()) != textOf(want) {
			t.Errorf("%s of %v: %.60s, error %d, want %.60s", what, f, x.Text(), e, textOf(want))
		}
	}
}

// TestP2_6_Step: from a value on, the next values are a step apart.
func TestP2_6_Step(t *testing.T) {
	for _, f := range smallFormats {
		m := modelOf(f)
		last := m.infinity()
		last.Sub(last, big.NewInt(1))
		for _, x := range gridAround(t, f) {
			size := new(big.Rat).Abs(toBig(t, x))
			step, e := floats.Step(f, x)
			if size.Cmp(m.size(last)) > 0 {
				if e != api.ErrRange || step.Sign() != 0 {
					t.Errorf("Step(%v, %.40s): %s, error %d", f, x.Text(), step.Text(), e)
				}
				continue
			}
			at := m.below(size)
			next := new(big.Int).Add(at, big.NewInt(1)) // at the greatest value: as if it went on
			want := new(big.Rat).Sub(m.size(next), m.size(at))
			if e != api.OK || string(step.Text()) != textOf(want) {
				t.Errorf("Step(%v, %.40s): %s, error %d, want %s", f, x.Text(), step.Text(), e, textOf(want))
			}
		}
	}
}
