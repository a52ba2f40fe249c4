package ranges_test

import (
	"math"
	"slices"
	"testing"

	"vernier/api"
	"vernier/ranges"
)

// wrongBoxes are boxes of two spans, with their errors.
var wrongBoxes = []struct {
	box string
	e   api.Errno
}{
	{"x 1, 0 1", api.ErrForm}, {"1 x, 0 1", api.ErrForm}, {"0 1, x 1", api.ErrForm}, {"0 1, 0 2/4", api.ErrForm},
	{"2 1, 0 1", api.ErrRange}, {"0 1, 2 1", api.ErrRange}, {"2 1, 0 x", api.ErrForm}, {"2 1, x 0", api.ErrForm},
	{"0 " + digits(2001) + ", x 1", api.ErrLong}, {"x 1, 0 " + digits(2001), api.ErrForm}, {"1 0, " + digits(2001) + " 0", api.ErrLong},
	{"1 x, " + digits(2001) + " 0", api.ErrForm},
}

// TestP6_2_Split: a box is split at a number within a span.
func TestP6_2_Split(t *testing.T) {
	box := spans("0 1, -1/3 5, 2 2")
	for _, c := range []struct {
		input int
		at    api.Rat
		e     api.Errno
	}{
		{0, "1/2", api.OK}, {1, "-1/4", api.OK}, {1, "0", api.OK}, {0, "999/1000", api.OK},
		{0, "0", api.ErrRange}, {0, "1", api.ErrRange}, {0, "2", api.ErrRange}, {0, "-1", api.ErrRange}, {1, "-1/3", api.ErrRange},
		{1, "5", api.ErrRange}, {2, "2", api.ErrRange}, {3, "1/2", api.ErrRange}, {-1, "1/2", api.ErrRange}, {math.MaxInt, "1/2", api.ErrRange},
		{math.MinInt, "x", api.ErrRange}, {3, "x", api.ErrRange}, {0, "x", api.ErrForm}, {0, "", api.ErrForm}, {0, "2/4", api.ErrForm}, {2, api.Rat(digits(2001)), api.ErrLong},
	} {
		lower, upper, e := ranges.Split(box, c.input, c.at)
		var wantLower, wantUpper []api.Span
		if c.e == api.OK {
			wantLower, wantUpper = slices.Clone(box), slices.Clone(box)
			wantLower[c.input].Hi, wantUpper[c.input].Lo = c.at, c.at
		}
		if !slices.Equal(lower, wantLower) || !slices.Equal(upper, wantUpper) || e != c.e {
			t.Errorf("%d at %.20s: %v, %v, error %d, want error %d", c.input, c.at, lower, upper, e, c.e)
		}
	}
	for _, c := range wrongBoxes {
		for _, input := range []int{0, 1, 2} {
			if lower, upper, e := ranges.Split(spans(c.box), input, "x"); len(lower)+len(upper) > 0 || e != c.e {
				t.Errorf("%.40s: %v, %v, error %d, want %d", c.box, lower, upper, e, c.e)
			}
		}
	}
	if _, _, e := ranges.Split(nil, 0, "1"); e != api.ErrRange {
		t.Errorf("no spans: error %d", e)
	}
}

// TestP6_2_Widest: the first one of the spans with the greatest width.
func TestP6_2_Widest(t *testing.T) {
	for text, want := range map[string]int{
		"0 1": 0, "5 5, 0 1/1000": 1, "0 1, 2 3": 0, "0 1, 2 4, 6 8": 1, "-1/3 1/3, 0 2/3, 1/7 1": 2, "0 0, 1 1, -5 -4, 2 3": 2,
		"0 1, 0 1, 0 1, 0 1, 0 1, 0 1, 0 1, 0 1, 0 1000001/1000000, 0 1": 8,
	} {
		if i, e := ranges.Widest(spans(text)); i != want || e != api.OK {
			t.Errorf("%s: %d, error %d, want %d", text, i, e, want)
		}
	}
	for _, text := range []string{"", "0 0", "1/3 1/3, -5 -5"} {
		if i, e := ranges.Widest(spans(text)); i != 0 || e != api.ErrNone {
			t.Errorf("%s: %d, error %d", text, i, e)
		}
	}
	for _, c := range wrongBoxes {
		if i, e := ranges.Widest(spans(c.box)); i != 0 || e != c.e {
			t.Errorf("%.40s: %d, error %d, want %d", c.box, i, e, c.e)
		}
	}
}
