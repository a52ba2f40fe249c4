package floats

import (
	"vernier/api"
	"vernier/exact"
)

// otherSign has the mode in which the size of a number below 0 is rounded, for
// each mode.
var otherSign = [...]int{
	api.RnEven:  api.RnEven,
	api.RnAway:  api.RnAway,
	api.RnTrunc: api.RnTrunc,
	api.RnUp:    api.RnDown,
	api.RnDown:  api.RnUp,
}

// How much of a step is cut off by rounding down.
const (
	restNone = iota
	restBelowHalf
	restHalf
	restAboveHalf
)

// sizeMode returns the mode for the size of a number with a sign.
func (m machine) sizeMode(neg bool) int {
	if neg {
		return otherSign[m.mode]
	}
	return m.mode
}

// roundsUp tells whether a size goes up to the next multiple of the step, if odd
// tells that the one below is odd.
func roundsUp(mode int, odd bool, rest int) bool {
	switch mode {
	case api.RnUp:
		return rest != restNone
	case api.RnEven:
		if rest == restHalf && !odd {
			return false
		}
		fallthrough
	case api.RnAway:
		return rest >= restHalf
	}
	return false
}

// round returns x, rounded, and the flags.
func (m machine) round(x exact.Num) (api.Word, int) {
	k, e := x.Log()
	if e != api.OK {
		return api.Word{}, 0
	}
	neg, mode := x.Sign() < 0, m.sizeMode(x.Sign() < 0)
	if k > m.bias() {
		return m.overflow(neg)
	}
	digits, rest := inSteps(x, m.step(x))
	// digits has the bit that a word does not write, which adds 1 to the field.
	size := plus(left(api.Word{Lo: uint64(max(k-m.lowest(), 0))}, m.P-1), digits)
	if roundsUp(mode, digits.Lo&1 == 1, rest) {
		size = plus(size, one()) // beyond the last fraction comes the next field
	}
	if !less(size, m.infinity()) {
		return m.overflow(neg)
	}
	flags := 0
	if rest != restNone {
		flags = api.FlInexact
		if k < m.lowest() {
			flags |= api.FlUnder
		}
	}
	return m.signed(neg, size), flags
}

// inSteps returns how many steps 2^k the size of x has, rounded down, and what
// is left.
func inSteps(x exact.Num, k int) (digits api.Word, rest int) {
	halves := shifted(x.Abs(), 1-k)
	w := toWord(halves.Floor())
	rest = restNone
	if w.Lo&1 == 1 {
		rest = restHalf
	}
	if !halves.IsInt() {
		rest++
	}
	return right(w, 1), rest
}

// overflow returns what a number beyond the greatest value is rounded to.
func (m machine) overflow(neg bool) (api.Word, int) {
	size := m.infinity()
	switch m.sizeMode(neg) {
	case api.RnTrunc, api.RnDown:
		size = minus(size, one())
	}
	return m.signed(neg, size), api.FlOver | api.FlInexact
}

// rootAlike returns a number that is rounded, with the same flags, as the square
// root of x, which is not below 0.
func (m machine) rootAlike(x exact.Num) exact.Num {
	// Wherever rounding turns is a number with at most one bit more than the
	// format has. None of these is between low and high, unless it is both.
	low, _ := x.RootDown(m.P + 1)
	high, _ := x.RootUp(m.P + 1)
	return shifted(low.Add(high), -1)
}

// Round rounds a number.
func Round(f api.Format, mode int, x exact.Num) (w api.Word, flags int, e api.Errno) {
	m, e := newMachine(f, mode)
	if e != api.OK {
		return api.Word{}, 0, e
	}
	w, flags = m.round(x)
	return w, flags, api.OK
}

// Root rounds a square root.
func Root(f api.Format, mode int, x exact.Num) (w api.Word, flags int, e api.Errno) {
	m, e := newMachine(f, mode)
	switch {
	case e != api.OK:
		return api.Word{}, 0, e
	case x.Sign() < 0:
		return api.Word{}, 0, api.ErrDomain
	}
	w, flags = m.round(m.rootAlike(x))
	return w, flags, api.OK
}

// Near returns the rounded number.
func Near(f api.Format, mode int, x exact.Num) (exact.Num, api.Errno) {
	w, _, e := Round(f, mode, x)
	return nearOf(f, w, e)
}

// NearRoot returns the rounded square root.
func NearRoot(f api.Format, mode int, x exact.Num) (exact.Num, api.Errno) {
	w, _, e := Root(f, mode, x)
	return nearOf(f, w, e)
}

// nearOf returns the number of a word that was rounded to.
func nearOf(f api.Format, w api.Word, e api.Errno) (exact.Num, api.Errno) {
	if e != api.OK {
		return exact.Num{}, e
	}
	x, e := Value(f, w)
	if e != api.OK { // an infinity: nothing is rounded to a NaN
		return exact.Num{}, api.ErrRange
	}
	return x, api.OK
}
