package floats_test

import (
	"math/big"

	"vernier/api"
)

// This file has a second machine, which the tests compare with. It knows the
// values of words by the chapter's table, and finds everything else by searches
// among words and by the definitions, with numbers of the library.

// model is a format of the second machine.
type model struct{ e, p int }

// modelValue is what a word stands for; num is the number with its sign, the
// payload of a NaN, and 0 otherwise.
type modelValue struct {
	kind int
	neg  bool
	num  *big.Rat
}

func modelOf(f api.Format) model { return model{f.E, f.P} }

func ratTwo(k int) *big.Rat {
	n := new(big.Rat).SetInt(new(big.Int).Lsh(big.NewInt(1), uint(max(k, -k))))
	if k < 0 {
		n.Inv(n)
	}
	return n
}

func intTwo(k int) *big.Int { return new(big.Int).Lsh(big.NewInt(1), uint(k)) }

func bigOf(w api.Word) *big.Int {
	n := new(big.Int).SetUint64(w.Hi)
	return n.Lsh(n, 64).Or(n, new(big.Int).SetUint64(w.Lo))
}

func wordOf(n *big.Int) api.Word {
	low := new(big.Int).And(n, new(big.Int).Sub(intTwo(64), big.NewInt(1)))
	return api.Word{Hi: new(big.Int).Rsh(n, 64).Uint64(), Lo: low.Uint64()}
}

func (m model) bias() int { return 1<<(m.e-1) - 1 }

// infinity returns the word of infinity as an integer.
func (m model) infinity() *big.Int {
	n := big.NewInt(1<<m.e - 1)
	return n.Lsh(n, uint(m.p-1))
}

// size returns what a word without a sign stands for as a finite number; for
// infinity it goes on as if there were more fields.
func (m model) size(n *big.Int) *big.Rat {
	field := int(new(big.Int).Rsh(n, uint(m.p-1)).Int64())
	fraction := new(big.Int).Mod(n, intTwo(m.p-1))
	if field == 0 {
		return new(big.Rat).Mul(new(big.Rat).SetInt(fraction), ratTwo(2-m.bias()-m.p))
	}
	fraction.Add(fraction, intTwo(m.p-1))
	return new(big.Rat).Mul(new(big.Rat).SetInt(fraction), ratTwo(field-m.bias()-m.p+1))
}

// decode returns what a word stands for.
func (m model) decode(w api.Word) modelValue {
	n := bigOf(w)
	out := modelValue{neg: n.Bit(m.e+m.p-1) == 1, num: new(big.Rat)}
	n.SetBit(n, m.e+m.p-1, 0)
	fraction := new(big.Int).Mod(n, intTwo(m.p-1))
	switch {
	case n.Sign() == 0:
		out.kind = api.FlZero
	case n.Cmp(m.infinity()) < 0:
		out.kind = api.FlFinite
		out.num = m.size(n)
		if out.neg {
			out.num.Neg(out.num)
		}
	case fraction.Sign() == 0:
		out.kind = api.FlInf
	case fraction.Cmp(intTwo(m.p-2)) >= 0:
		out.kind = api.FlQuiet
		out.num.SetInt(fraction.Sub(fraction, intTwo(m.p-2)))
	default:
		out.kind = api.FlSignal
		out.num.SetInt(fraction)
	}
	return out
}

func (m model) word(neg bool, n *big.Int) api.Word {
	n = new(big.Int).Set(n)
	if neg {
		n.SetBit(n, m.e+m.p-1, 1)
	}
	return wordOf(n)
}

// below returns the greatest word without a sign whose number is at most x, which
// is not below 0; at most the word of infinity.
func (m model) below(x *big.Rat) *big.Int {
	low, high := new(big.Int), new(big.Int).Add(m.infinity(), big.NewInt(1))
	for {
		middle := new(big.Int).Add(low, high)
		middle.Rsh(middle, 1)
		if middle.Cmp(low) == 0 {
			return low
		}
		if m.size(middle).Cmp(x) <= 0 {
			low = middle
		} else {
			high = middle
		}
	}
}

// round rounds a number: between two neighbouring words, the one at infinity
// standing for the multiple of the step beyond the greatest value.
func (m model) round(mode int, x *big.Rat) (api.Word, int) {
	if x.Sign() == 0 {
		return api.Word{}, 0
	}
	neg, size := x.Sign() < 0, new(big.Rat).Abs(x)
	n := m.below(size)
	low := m.size(n)
	if n.Cmp(m.infinity()) == 0 {
		return m.overflow(mode, neg)
	}
	if low.Cmp(size) == 0 {
		return m.word(neg, n), 0
	}
	next := new(big.Int).Add(n, big.NewInt(1))
	high := m.size(next)
	toLow, toHigh := new(big.Rat).Sub(size, low), new(big.Rat).Sub(high, size)
	up := false
	switch mode {
	case api.RnEven:
		up = toHigh.Cmp(toLow) < 0 || toHigh.Cmp(toLow) == 0 && next.Bit(0) == 0
	case api.RnAway:
		up = toHigh.Cmp(toLow) <= 0
	case api.RnUp:
		up = !neg
	case api.RnDown:
		up = neg
	}
	if up {
		n = next
	}
	if n.Cmp(m.infinity()) == 0 {
		return m.overflow(mode, neg)
	}
	flags := api.FlInexact
	if size.Cmp(ratTwo(1-m.bias())) < 0 {
		flags |= api.FlUnder
	}
	return m.word(neg, n), flags
}

func (m model) overflow(mode int, neg bool) (api.Word, int) {
	n := m.infinity()
	if mode == api.RnTrunc || mode == api.RnUp && neg || mode == api.RnDown && !neg {
		n.Sub(n, big.NewInt(1))
	}
	return m.word(neg, n), api.FlOver | api.FlInexact
}

// root rounds the square root of x, which is above 0: by comparing squares.
func (m model) root(mode int, x *big.Rat) (api.Word, int) {
	square := func(r *big.Rat) *big.Rat { return new(big.Rat).Mul(r, r) }
	low, high := new(big.Int), m.infinity()
	for {
		middle := new(big.Int).Add(low, high)
		middle.Rsh(middle, 1)
		if middle.Cmp(low) == 0 {
			break
		}
		if square(m.size(middle)).Cmp(x) <= 0 {
			low = middle
		} else {
			high = middle
		}
	}
	a, b := m.size(low), m.size(high)
	switch {
	case square(a).Cmp(x) == 0:
		return m.round(mode, a)
	case square(b).Cmp(x) <= 0: // beyond all values: b is that of infinity
		return m.round(mode, b)
	}
	// A number on the same side of the middle of both, or that middle, is rounded
	// likewise.
	middle := new(big.Rat).Add(a, b)
	middle.Mul(middle, big.NewRat(1, 2))
	switch square(middle).Cmp(x) {
	case 1:
		middle.Add(middle, a).Mul(middle, big.NewRat(1, 2))
	case -1:
		middle.Add(middle, b).Mul(middle, big.NewRat(1, 2))
	}
	return m.round(mode, middle)
}

func (m model) nan() api.Word {
	n := m.infinity()
	return wordOf(n.Add(n, intTwo(m.p-2)))
}

func (v modelValue) isNaN() bool { return v.kind >= api.FlQuiet }
func (v modelValue) isInf() bool { return v.kind == api.FlInf }
func (v modelValue) isZero() bool {
	return v.kind == api.FlZero
}

// nanOf returns what an operation with a NaN has, if one of the operands is one.
func (m model) nanOf(in ...modelValue) (api.Word, int, bool) {
	flags, is := 0, false
	for _, v := range in {
		is = is || v.isNaN()
		if v.kind == api.FlSignal {
			flags = api.FlInvalid
		}
	}
	return m.nan(), flags, is
}

func (m model) exactZero(mode int, a, b modelValue) api.Word {
	neg := mode == api.RnDown
	if a.isZero() && b.isZero() && a.neg == b.neg {
		neg = a.neg
	}
	return m.word(neg, new(big.Int))
}

func (m model) add(mode int, a, b modelValue) (api.Word, int) {
	if w, flags, is := m.nanOf(a, b); is {
		return w, flags
	}
	switch {
	case a.isInf() && b.isInf() && a.neg != b.neg:
		return m.nan(), api.FlInvalid
	case a.isInf():
		return m.word(a.neg, m.infinity()), 0
	case b.isInf():
		return m.word(b.neg, m.infinity()), 0
	}
	sum := new(big.Rat).Add(a.num, b.num)
	if sum.Sign() == 0 {
		return m.exactZero(mode, a, b), 0
	}
	return m.round(mode, sum)
}

func (m model) sub(mode int, a, b modelValue) (api.Word, int) {
	b.neg = !b.neg
	b.num = new(big.Rat).Neg(b.num)
	return m.add(mode, a, b)
}

func (m model) mul(mode int, a, b modelValue) (api.Word, int) {
	if w, flags, is := m.nanOf(a, b); is {
		return w, flags
	}
	neg := a.neg != b.neg
	switch {
	case a.isZero() && b.isInf(), a.isInf() && b.isZero():
		return m.nan(), api.FlInvalid
	case a.isInf() || b.isInf():
		return m.word(neg, m.infinity()), 0
	case a.isZero() || b.isZero():
		return m.word(neg, new(big.Int)), 0
	}
	return m.round(mode, new(big.Rat).Mul(a.num, b.num))
}

func (m model) div(mode int, a, b modelValue) (api.Word, int) {
	if w, flags, is := m.nanOf(a, b); is {
		return w, flags
	}
	neg := a.neg != b.neg
	switch {
	case a.isZero() && b.isZero(), a.isInf() && b.isInf():
		return m.nan(), api.FlInvalid
	case a.isInf():
		return m.word(neg, m.infinity()), 0
	case b.isZero():
		return m.word(neg, m.infinity()), api.FlDivide
	case b.isInf() || a.isZero():
		return m.word(neg, new(big.Int)), 0
	}
	return m.round(mode, new(big.Rat).Quo(a.num, b.num))
}

func (m model) rem(a, b modelValue) (api.Word, int) {
	if w, flags, is := m.nanOf(a, b); is {
		return w, flags
	}
	switch {
	case a.isInf() || b.isZero():
		return m.nan(), api.FlInvalid
	case b.isInf():
		if a.isZero() {
			return m.word(a.neg, new(big.Int)), 0
		}
		return m.round(api.RnEven, a.num)
	}
	rest := remainder(a.num, b.num)
	if rest.Sign() == 0 {
		return m.word(a.neg, new(big.Int)), 0
	}
	return m.round(api.RnEven, rest)
}

// remainder returns x less y n, n being the integer nearest to x / y, of two the
// even one.
func remainder(x, y *big.Rat) *big.Rat {
	quotient := new(big.Rat).Quo(x, y)
	low := new(big.Int).Div(quotient.Num(), quotient.Denom()) // rounds down
	rest := func(n *big.Int) *big.Rat {
		product := new(big.Rat).Mul(y, new(big.Rat).SetInt(n))
		return product.Sub(x, product)
	}
	next := new(big.Int).Add(low, big.NewInt(1))
	a, b := rest(low), rest(next)
	order := new(big.Rat).Abs(a).Cmp(new(big.Rat).Abs(b))
	if order < 0 || order == 0 && low.Bit(0) == 0 {
		return a
	}
	return b
}

func (m model) sqrt(mode int, a modelValue) (api.Word, int) {
	if w, flags, is := m.nanOf(a); is {
		return w, flags
	}
	switch {
	case a.isZero():
		return m.word(a.neg, new(big.Int)), 0
	case a.neg:
		return m.nan(), api.FlInvalid
	case a.isInf():
		return m.word(false, m.infinity()), 0
	}
	return m.root(mode, a.num)
}

func (m model) fma(mode int, a, b, c modelValue) (api.Word, int) {
	bad := a.isZero() && b.isInf() || a.isInf() && b.isZero()
	if w, flags, is := m.nanOf(a, b, c); is {
		if bad {
			flags = api.FlInvalid
		}
		return w, flags
	}
	if bad {
		return m.nan(), api.FlInvalid
	}
	product := modelValue{api.FlFinite, a.neg != b.neg, new(big.Rat).Mul(a.num, b.num)}
	if a.isInf() || b.isInf() {
		product.kind = api.FlInf
	} else if a.isZero() || b.isZero() {
		product.kind = api.FlZero
	}
	return m.add(mode, product, c)
}

// cast converts a value of another format to this one.
func (m model) cast(mode int, a modelValue) (api.Word, int) {
	if w, flags, is := m.nanOf(a); is {
		return w, flags
	}
	switch {
	case a.isInf():
		return m.word(a.neg, m.infinity()), 0
	case a.isZero():
		return m.word(a.neg, new(big.Int)), 0
	}
	return m.round(mode, a.num)
}
