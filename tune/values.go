package tune

import (
	"iter"
	"math/bits"
	"slices"

	"vernier/api"
	"vernier/exact"
	"vernier/floats"
)

func isGridSize(n int) bool { return n >= 1 && n <= api.MaxPoints }

// values are those of an input, by their numbers.
type values struct {
	format api.Format
	lo     exact.Num
	count  int64
}

func valuesOf(p api.Prog, input int) (values, api.Errno) {
	in := p.Inputs[input]
	lo, e := exact.Parse(in.Lo)
	if e != api.OK {
		return values{}, e
	}
	hi, e := exact.Parse(in.Hi)
	if e != api.OK {
		return values{}, e
	}
	v := values{format: p.Formats[in.Format], lo: lo}
	v.count, e = floats.Count(v.format, lo, hi)
	return v, e
}

// numbered returns the value with a number that one of them has.
func (v values) numbered(i int64) api.Rat {
	w, _ := floats.Nth(v.format, v.lo, i)
	x, _ := floats.Value(v.format, w)
	return x.Text()
}

// numberOf returns the number of a value, which is one of these.
func (v values) numberOf(text api.Rat) int64 {
	x, _ := exact.Parse(text)
	upTo, _ := floats.Count(v.format, v.lo, x)
	return upTo - 1
}

// grid returns at most n values that are evenly spread by their numbers.
func (v values) grid(n int) []api.Rat {
	out := []api.Rat{v.numbered(0)}
	last := int64(0)
	for k := 1; k < n; k++ {
		if i := portion(v.count-1, k, n-1); i != last {
			out, last = append(out, v.numbered(i)), i
		}
	}
	return out
}

// portion returns all k / n, rounded down, for k from 0 to n: the product needs more than 64 bits.
func portion(all int64, k, n int) int64 {
	high, low := bits.Mul64(uint64(all), uint64(k))
	quotient, _ := bits.Div64(high, low, uint64(n))
	return int64(quotient)
}

// near returns the numbers to which a search may go from one of them.
func (v values) near(i int64) []int64 {
	var out []int64
	for _, other := range []int64{i - 1, i + 1, i / 2, (i + v.count) / 2} {
		if other >= 0 && other < v.count && other != i {
			out = append(out, other)
		}
	}
	return out
}

// space has the values of all inputs.
type space []values

func spaceOf(p api.Prog) (space, api.Errno) {
	var out space
	for i := range p.Inputs {
		v, e := valuesOf(p, i)
		if e != api.OK {
			return nil, e
		}
		out = append(out, v)
	}
	return out, api.OK
}

// grid returns the grid of each input, and whether these have not too many points.
func (s space) grid(n int) (out [][]api.Rat, fits bool) {
	points := 1
	for _, v := range s {
		l := v.grid(n)
		if points *= len(l); points > api.MaxPoints {
			return nil, false
		}
		out = append(out, l)
	}
	return out, true
}

// neighbours yields the points that differ from one in one input alone.
func (s space) neighbours(in []api.Rat) iter.Seq[[]api.Rat] {
	return func(yield func([]api.Rat) bool) {
		for input, v := range s {
			for _, i := range v.near(v.numberOf(in[input])) {
				other := slices.Clone(in)
				other[input] = v.numbered(i)
				if !yield(other) {
					return
				}
			}
		}
	}
}
