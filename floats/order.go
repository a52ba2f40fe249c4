package floats

import (
	"cmp"

	"vernier/api"
	"vernier/exact"
)

// maxCount is how many values are counted at most.
const maxCount = 1 << 62

// Cmp compares.
func Cmp(f api.Format, a, b api.Word) (order, flags int, e api.Errno) {
	m, e := plainMachine(f)
	if e != api.OK {
		return 0, 0, e
	}
	in, e := m.operands(a, b)
	if e != api.OK {
		return 0, 0, e
	}
	x, y := in[0], in[1]
	switch {
	case x.kind == api.FlSignal || y.kind == api.FlSignal:
		return api.FlUnordered, api.FlInvalid, api.OK
	case x.isNaN() || y.isNaN():
		return api.FlUnordered, 0, api.OK
	case x.kind == api.FlInf || y.kind == api.FlInf:
		return cmp.Compare(x.beyond(), y.beyond()), 0, api.OK
	}
	return x.num.Cmp(y.num), 0, api.OK
}

// beyond returns on which side of all numbers an operand is, 0 for a number.
func (x operand) beyond() int {
	switch {
	case x.kind != api.FlInf:
		return 0
	case x.neg:
		return -1
	}
	return 1
}

// Next returns the next word.
func Next(f api.Format, a api.Word, up bool) (api.Word, api.Errno) {
	m, e := plainMachine(f)
	if e != api.OK {
		return api.Word{}, e
	}
	in, e := m.operands(a)
	switch {
	case e != api.OK:
		return api.Word{}, e
	case in[0].isNaN():
		return api.Word{}, api.ErrNone
	case up:
		return m.above(a), api.OK
	}
	return m.opposite(m.above(m.opposite(a))), api.OK
}

// opposite returns a word with the other sign bit.
func (m machine) opposite(w api.Word) api.Word {
	neg, size := m.unsigned(w)
	return m.signed(!neg, size)
}

// above returns the next word above one that is no NaN.
func (m machine) above(w api.Word) api.Word {
	neg, size := m.unsigned(w)
	switch {
	case size == api.Word{}:
		return one()
	case neg:
		return m.signed(true, minus(size, one()))
	case size == m.infinity():
		return w
	}
	return plus(size, one())
}

// place returns which value a word has, counted from 0; infinities come next to
// the last values.
func (m machine) place(w api.Word) exact.Num {
	neg, size := m.unsigned(w)
	if neg {
		return toNum(size).Neg()
	}
	return toNum(size)
}

// first returns the place of the least value that is not below x, or that of
// infinity.
func (m machine) first(x exact.Num) exact.Num {
	m.mode = api.RnUp
	w, _ := m.round(x)
	return m.place(w)
}

// last returns the place of the greatest value that is not above x, or that of
// minus infinity.
func (m machine) last(x exact.Num) exact.Num { return m.first(x.Neg()).Neg() }

// Count counts values between two numbers.
func Count(f api.Format, lo, hi exact.Num) (int64, api.Errno) {
	m, e := plainMachine(f)
	switch {
	case e != api.OK:
		return 0, e
	case lo.Cmp(hi) > 0:
		return 0, api.OK
	}
	n := m.last(hi).Sub(m.first(lo)).Add(exact.Int(1))
	if n.Cmp(exact.Int(maxCount)) > 0 {
		return 0, api.ErrLong
	}
	return n.Int64()
}

// Nth returns a value by its place.
func Nth(f api.Format, lo exact.Num, n int64) (api.Word, api.Errno) {
	m, e := plainMachine(f)
	switch {
	case e != api.OK:
		return api.Word{}, e
	case n < 0:
		return api.Word{}, api.ErrRange
	}
	at := m.first(lo).Add(exact.Int(n))
	if at.Cmp(m.place(m.infinity())) >= 0 {
		return api.Word{}, api.ErrNone
	}
	return m.signed(at.Sign() < 0, toWord(at.Abs())), api.OK
}
