package ranges

import (
	"iter"
	"slices"

	"vernier/api"
)

// bestOver returns the best range over a box.
func (s *subject) bestOver(box []Interval) (Interval, api.Errno) {
	best, fault := s.rangeOver(box)
	found := fault == api.OK
	also := func(x Interval, e api.Errno) {
		switch {
		case e != api.OK:
			return
		case found:
			x, _ = best.Meet(x) // there is such a number: each has all values of the node
		}
		best, found = x, true
	}
	x, e := s.formOver(box)
	also(x.interval(), e)
	if slopes, e := s.slopesOver(box); e == api.OK {
		also(s.meanOver(box, slopes))
		also(s.monotoneOver(box, slopes))
	}
	if !found {
		return Interval{}, fault
	}
	return best, api.OK
}

// piece is a part of a box, with the range of the node there, or the error.
type piece struct {
	box    []Interval
	values Interval
	fault  api.Errno
}

// split splits a box as often as is asked for, or as it can be.
func (s *subject) split(box []Interval, splits int) []piece {
	values, fault := s.bestOver(box)
	pieces := []piece{{box, values, fault}}
	for turn := range splits {
		at := nextPiece(pieces, turn%2 == 0)
		input, is := widest(pieces[at].box)
		if !is {
			break
		}
		// Its capacity ends before the pieces that follow: they stay as they are.
		parts := pieces[:at:at]
		for x := range s.halves(pieces[at], input) {
			parts = append(parts, x)
		}
		pieces = append(parts, pieces[at+1:]...)
	}
	return pieces
}

// nextPiece returns which piece is split next: the first one with an error, or else
// the first one with the least lower end, or with the greatest upper end.
func nextPiece(pieces []piece, byLower bool) int {
	at := 0
	for i, x := range pieces {
		best := pieces[at].values
		switch {
		case x.fault != api.OK:
			return i
		case byLower && x.values.lo.Cmp(best.lo) < 0:
			at = i
		case !byLower && x.values.hi.Cmp(best.hi) > 0:
			at = i
		}
	}
	return at
}

// halves yields both halves of a piece, the lower one first.
func (s *subject) halves(whole piece, input int) iter.Seq[piece] {
	return func(yield func(piece) bool) {
		a := whole.box[input]
		middle := a.middle()
		for _, part := range [...]Interval{{a.lo, middle}, {middle, a.hi}} {
			box := slices.Clone(whole.box)
			box[input] = part
			if !yield(s.halfOf(whole, box)) {
				return
			}
		}
	}
}

// halfOf returns the piece of a half, which has no value that the whole has not.
func (s *subject) halfOf(whole piece, box []Interval) piece {
	values, fault := s.bestOver(box)
	switch {
	case whole.fault != api.OK:
		return piece{box, values, fault}
	case fault != api.OK:
		return piece{box, whole.values, api.OK}
	}
	values, _ = values.Meet(whole.values)
	return piece{box, values, api.OK}
}

// joinPieces returns the bound and how many pieces there are, or the error of a
// piece.
func joinPieces(pieces []piece) (bound Interval, count int, e api.Errno) {
	bound = pieces[0].values
	for _, x := range pieces {
		if x.fault != api.OK {
			return Interval{}, 0, x.fault
		}
		bound = bound.Join(x.values)
	}
	return bound, len(pieces), api.OK
}
