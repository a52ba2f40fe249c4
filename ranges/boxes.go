package ranges

import (
	"slices"

	"vernier/api"
	"vernier/exact"
)

// readBox returns the intervals of a box. The texts of all spans are looked at
// before the order of the ends of any.
func readBox(box []api.Span) ([]Interval, api.Errno) {
	out := make([]Interval, len(box))
	for i, s := range box {
		var e api.Errno
		if out[i], e = readEnds(s); e != api.OK {
			return nil, e
		}
	}
	for _, a := range out {
		if a.lo.Cmp(a.hi) > 0 {
			return nil, api.ErrRange
		}
	}
	return out, api.OK
}

// Split splits a box.
func Split(box []api.Span, input int, at api.Rat) (lower, upper []api.Span, e api.Errno) {
	over, e := readBox(box)
	switch {
	case e != api.OK:
		return nil, nil, e
	case input < 0 || input >= len(box):
		return nil, nil, api.ErrRange
	}
	x, e := exact.Parse(at)
	switch {
	case e != api.OK:
		return nil, nil, e
	case x.Cmp(over[input].lo) <= 0 || x.Cmp(over[input].hi) >= 0:
		return nil, nil, api.ErrRange
	}
	lower, upper = slices.Clone(box), slices.Clone(box)
	lower[input].Hi, upper[input].Lo = at, at
	return lower, upper, api.OK
}

// Widest returns the widest input of a box.
func Widest(box []api.Span) (int, api.Errno) {
	over, e := readBox(box)
	if e != api.OK {
		return 0, e
	}
	input, is := widest(over)
	if !is {
		return 0, api.ErrNone
	}
	return input, api.OK
}

// widest returns the first one of the widest inputs, if its width is above 0.
func widest(box []Interval) (input int, is bool) {
	var most exact.Num
	for i, a := range box {
		if width := a.width(); width.Cmp(most) > 0 {
			input, most = i, width
		}
	}
	return input, most.Sign() > 0
}
