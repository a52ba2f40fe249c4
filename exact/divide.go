package exact

import "math/bits"

// divide returns the quotient of a by b, which is not 0, rounded down, and the
// rest.
func (a natural) divide(b natural) (quotient, rest natural) {
	switch {
	case a.cmp(b) < 0:
		return nil, a
	case len(b) == 1:
		quotient, last := a.divideByWord(b[0])
		return quotient, fromWord(last)
	}
	return a.divideLong(b)
}

// divideByWord returns the quotient of a by w, and the rest.
func (a natural) divideByWord(w uint64) (natural, uint64) {
	out := make(natural, len(a))
	var rest uint64
	for i := len(a) - 1; i >= 0; i-- {
		out[i], rest = bits.Div64(rest, a[i], w)
	}
	return cutZeros(out), rest
}

// divideLong divides by at least two words, as on paper (Knuth's algorithm D).
// Both numbers are shifted until the highest bit of the divisor is 1: that makes
// the guess of a word at most 1 too great.
func (a natural) divideLong(b natural) (quotient, rest natural) {
	up := bits.LeadingZeros64(b[len(b)-1])
	by, n := b.left(up), len(b)
	left := make(natural, len(a)+1)
	copy(left, a.left(up))
	out := make(natural, len(a)-n+1)
words:
	for i := len(out) - 1; i >= 0; i-- {
		part := left[i : i+n+1]
		out[i] = guessWord(part[n], part[n-1], part[n-2], by[n-1], by[n-2])
		missing := takeProduct(part[:n], by, out[i]) > part[n]
		part[n] = 0
		for missing {
			out[i]--
			if addTo(part[:n], by) != 0 {
				continue words
			}
		}
	}
	return cutZeros(out), cutZeros(left).right(up)
}

// guessWord returns a word of a quotient, or 1 more, from the three highest
// words of what is divided and the two highest ones of the divisor.
func guessWord(a2, a1, a0, b1, b0 uint64) uint64 {
	guess, rest := ^uint64(0), a1+b1
	if a2 < b1 {
		guess, rest = bits.Div64(a2, a1, b1)
	} else if rest < b1 { // the rest has more than one word: b0 makes no difference
		return guess
	}
	high, low := bits.Mul64(guess, b0)
	for high > rest || high == rest && low > a0 {
		guess--
		rest += b1
		if rest < b1 {
			return guess
		}
		var borrow uint64
		low, borrow = bits.Sub64(low, b0, 0)
		high -= borrow
	}
	return guess
}

// takeProduct subtracts a times w from the words of out, of which there are at
// least as many as of a, and returns what is missing beyond those.
func takeProduct(out, a natural, w uint64) uint64 {
	var more uint64
	for i, v := range a {
		high, low := bits.Mul64(v, w)
		low, carry := bits.Add64(low, more, 0)
		high += carry
		out[i], carry = bits.Sub64(out[i], low, 0)
		more = high + carry
	}
	for i := len(a); more != 0 && i < len(out); i++ {
		out[i], more = bits.Sub64(out[i], more, 0)
	}
	return more
}

// root returns the square root, rounded down. Each round of Newton's method
// doubles how many of its binary digits are known: after a round, the number
// known so far differs by less than 1 from the root of as many leading digits of
// a as it needs.
func (a natural) root() natural {
	if len(a) == 0 {
		return nil
	}
	last := (a.size() - 1) / 2
	root, have := natural{1}, 0
	for i := bits.Len(uint(last)) - 1; i >= 0; i-- {
		want := last >> i
		more, _ := a.right(2*last - have - want + 1).divide(root)
		root = root.left(want - have - 1).add(more)
		have = want
	}
	if root.mul(root).cmp(a) > 0 {
		root = root.sub(natural{1})
	}
	return root
}
