package exact

import (
	"cmp"
	"math/bits"
)

// natural is an integer that is not below 0: its words of 64 bits, the lowest
// one first, without zeros at the end; 0 is nil. The words of a natural that is
// finished never change, so that any number of values may share them.
type natural []uint64

// splitWords is from how many words on a product is split into halves: below
// that, splitting costs more than it saves.
const splitWords = 40

// cutZeros returns the list without the zeros at its end, nil if none is left.
func cutZeros[L ~[]W, W comparable](l L) L {
	var zero W
	n := len(l)
	for n > 0 && l[n-1] == zero {
		n--
	}
	if n == 0 {
		return nil
	}
	return l[:n]
}

func fromWord(w uint64) natural {
	if w == 0 {
		return nil
	}
	return natural{w}
}

func (a natural) isOne() bool {
	return len(a) == 1 && a[0] == 1
}

// size returns how many binary digits a has, 0 of 0.
func (a natural) size() int {
	if len(a) == 0 {
		return 0
	}
	return len(a)*64 - bits.LeadingZeros64(a[len(a)-1])
}

// zeros returns how many binary digits at the end of a are 0; a is not 0.
func (a natural) zeros() int {
	i := 0
	for a[i] == 0 {
		i++
	}
	return i*64 + bits.TrailingZeros64(a[i])
}

// word returns a word of a, 0 beyond its end.
func (a natural) word(i int) uint64 {
	if i < len(a) {
		return a[i]
	}
	return 0
}

func (a natural) cmp(b natural) int {
	if len(a) != len(b) {
		return cmp.Compare(len(a), len(b))
	}
	for i := len(a) - 1; i >= 0; i-- {
		if a[i] != b[i] {
			return cmp.Compare(a[i], b[i])
		}
	}
	return 0
}

// head returns the i-th word, counted from the highest one, of a shifted so that
// its highest bit is 1: the digits of a as a fraction from 1/2 to 1.
func (a natural) head(i int) uint64 {
	at := len(a) - 1 - i
	if at < 0 {
		return 0
	}
	up := uint(bits.LeadingZeros64(a[len(a)-1]))
	if at == 0 {
		return a[0] << up
	}
	return a[at]<<up | a[at-1]>>(64-up)
}

// cmpHeads compares a and b, both above 0, as if they had equally many binary
// digits, without a copy of either.
func cmpHeads(a, b natural) int {
	for i := range max(len(a), len(b)) {
		if v, w := a.head(i), b.head(i); v != w {
			return cmp.Compare(v, w)
		}
	}
	return 0
}

func (a natural) add(b natural) natural {
	if len(a) < len(b) {
		a, b = b, a
	}
	sum := make(natural, len(a)+1)
	copy(sum, a)
	addTo(sum, b)
	return cutZeros(sum)
}

// sub returns a less b, which is at most a.
func (a natural) sub(b natural) natural {
	rest := make(natural, len(a))
	var borrow uint64
	for i, w := range a {
		rest[i], borrow = bits.Sub64(w, b.word(i), borrow)
	}
	return cutZeros(rest)
}

// addTo adds b to the words of sum, of which there are at least as many, and
// returns what is carried beyond them.
func addTo(sum, b natural) uint64 {
	var carry uint64
	for i, w := range b {
		sum[i], carry = bits.Add64(sum[i], w, carry)
	}
	for i := len(b); carry != 0 && i < len(sum); i++ {
		sum[i], carry = bits.Add64(sum[i], 0, carry)
	}
	return carry
}

// scale returns a times factor, plus more.
func (a natural) scale(factor, more uint64) natural {
	out := make(natural, len(a)+1)
	for i, w := range a {
		high, low := bits.Mul64(w, factor)
		var carry uint64
		out[i], carry = bits.Add64(low, more, 0)
		more = high + carry
	}
	out[len(a)] = more
	return cutZeros(out)
}

func (a natural) mul(b natural) natural {
	if len(a) < len(b) {
		a, b = b, a
	}
	switch {
	case len(b) == 0:
		return nil
	case len(b) == 1:
		return a.scale(b[0], 0)
	case len(b) < splitWords:
		return a.mulRows(b)
	}
	return a.mulHalves(b)
}

// mulRows multiplies a by each word of b.
func (a natural) mulRows(b natural) natural {
	out := make(natural, len(a)+len(b))
	for i, w := range b {
		out[i+len(a)] = addProduct(out[i:i+len(a)], a, w)
	}
	return cutZeros(out)
}

// addProduct adds a times w to the words of out, of which there are as many as
// of a, and returns what is carried beyond them.
func addProduct(out, a natural, w uint64) uint64 {
	var more uint64
	for i, v := range a {
		high, low := bits.Mul64(v, w)
		low, carry := bits.Add64(low, more, 0)
		high += carry
		out[i], carry = bits.Add64(out[i], low, 0)
		more = high + carry
	}
	return more
}

// mulHalves multiplies by Karatsuba's method: three products of halves instead
// of four. b has at most as many words as a.
func (a natural) mulHalves(b natural) natural {
	half := (len(a) + 1) / 2
	a0, a1 := cutZeros(a[:half]), a[half:]
	out := make(natural, len(a)+len(b))
	if len(b) <= half {
		copy(out, a0.mul(b))
		addTo(out[half:], a1.mul(b))
		return cutZeros(out)
	}
	b0, b1 := cutZeros(b[:half]), b[half:]
	low, high := a0.mul(b0), a1.mul(b1)
	middle := a0.add(a1).mul(b0.add(b1)).sub(low).sub(high)
	copy(out, low)
	addTo(out[2*half:], high)
	addTo(out[half:], middle)
	return cutZeros(out)
}

// power returns a to the power n, which is not below 0.
func (a natural) power(n int) natural {
	out := natural{1}
	for i := bits.Len(uint(n)) - 1; i >= 0; i-- {
		out = out.mul(out)
		if n>>i&1 == 1 {
			out = out.mul(a)
		}
	}
	return out
}

// left returns a times 2^k; k is not below 0.
func (a natural) left(k int) natural {
	if len(a) == 0 || k == 0 {
		return a
	}
	skip, up := k/64, uint(k%64)
	out := make(natural, len(a)+skip+1)
	for i, w := range a {
		out[i+skip] |= w << up
		out[i+skip+1] = w >> (64 - up)
	}
	return cutZeros(out)
}

// right returns a divided by 2^k, rounded down; k is not below 0.
func (a natural) right(k int) natural {
	skip, down := k/64, uint(k%64)
	switch {
	case k == 0:
		return a
	case skip >= len(a):
		return nil
	}
	out := make(natural, len(a)-skip)
	for i := range out {
		out[i] = a[i+skip]>>down | a.word(i+skip+1)<<(64-down)
	}
	return cutZeros(out)
}

// odd returns the odd number of which a, which is not 0, is a multiple by a
// power of two, and the exponent of this.
func (a natural) odd() (natural, int) {
	k := a.zeros()
	return a.right(k), k
}
