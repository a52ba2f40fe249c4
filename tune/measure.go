package tune

import (
	"iter"
	"slices"

	"vernier/api"
	"vernier/exact"
	"vernier/lang"
	"vernier/run"
)

// What a point has as its measure: what comes later is greater.
const (
	nothing = iota
	number
	fault
)

// point is one with its measure.
type point struct {
	in      []api.Rat
	measure int
	fault   api.RnFault
	err     exact.Num // rounded down
}

// exceeds tells which of two measures is greater; those that are no numbers have no error.
func (x point) exceeds(y point) bool {
	if x.measure != y.measure {
		return x.measure > y.measure
	}
	return x.err.Cmp(y.err) > 0
}

// report returns what is told of a point that has a measure.
func (x point) report() api.TnFound {
	out := api.TnFound{In: slices.Clone(x.in), Fault: x.fault}
	if x.measure == number {
		out.Error = x.err.Text()
	}
	return out
}

// meter takes the measures of points, for so many steps, and to so many bits.
type meter struct {
	prog        api.Prog
	steps, bits int
}

func (m meter) take(in []api.Rat) point {
	x := point{in: in}
	lo, _, f, e := run.Error(m.prog, in, m.steps, m.bits)
	switch {
	case e != api.OK:
	case f.Kind != 0:
		x.measure, x.fault = fault, f
	case lo.Digits() <= api.MaxDigits:
		x.measure, x.err = number, lo
	}
	return x
}

// better returns a point if its measure is greater than that of another one, and otherwise
// the other one.
func (m meter) better(other point, in []api.Rat) point {
	if x := m.take(in); x.exceeds(other) {
		return x
	}
	return other
}

// bestOf returns the best one of a point and others, of two of which the better one is told
// by a function. Nothing is better than a fault.
func bestOf(x point, points iter.Seq[[]api.Rat], better func(point, []api.Rat) point) point {
	for in := range points {
		if x.measure == fault {
			break
		}
		x = better(x, in)
	}
	return x
}

func isBits(bits int) bool { return bits >= 0 && bits <= api.MaxRlScale }

// measured returns a point with its measure.
func measured(p api.Prog, in []api.Rat, steps, bits int) (point, api.Errno) {
	if _, e := run.Check(p, in, steps); e != api.OK {
		return point{}, e
	}
	if !isBits(bits) {
		return point{}, api.ErrRange
	}
	x := meter{p, steps, bits}.take(in)
	if x.measure == nothing {
		return point{}, api.ErrNone
	}
	return x, api.OK
}

// bestOfGrid returns the best point of a grid with n points for each input.
func bestOfGrid(p api.Prog, n, steps, bits int) (point, api.Errno) {
	if _, _, e := lang.Check(p); e != api.OK {
		return point{}, e
	}
	if !isGridSize(n) || !isBits(bits) {
		return point{}, api.ErrRange
	}
	nodes, e := run.Count(p, steps)
	if e != api.OK {
		return point{}, e
	}
	s, e := spaceOf(p)
	if e != api.OK {
		return point{}, e
	}
	grids, fits := s.grid(n)
	if !fits || nodes > api.MaxRnNode {
		return point{}, api.ErrLong
	}
	x := bestOf(point{}, choices(grids), meter{p, steps, bits}.better)
	if x.measure == nothing {
		return point{}, api.ErrNone
	}
	return x, api.OK
}

func checkRounds(p api.Prog, rounds int) api.Errno {
	if _, _, e := lang.Check(p); e != api.OK {
		return e
	}
	if rounds < 0 || rounds > api.MaxRounds {
		return api.ErrRange
	}
	return api.OK
}

// climb goes from a point to better neighbours.
func (s space) climb(m meter, x point, rounds int) point {
	for range rounds {
		next := bestOf(x, s.neighbours(x.in), m.better)
		if !next.exceeds(x) {
			break
		}
		x = next
	}
	return x
}
