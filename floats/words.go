package floats

import (
	"math/bits"

	"vernier/api"
	"vernier/exact"
)

// The functions of this file compute with words as integers of 128 bits.

// pieceBits is into how many bits integers are cut between words and numbers:
// two such pieces have at least as many bits as any word of a format, and each
// of them is an int64.
const pieceBits = 62

// left returns w times 2^k; k is not below 0.
func left(w api.Word, k int) api.Word {
	n := uint(k)
	// A shift by 64 or more is 0; so is one below 0, which wraps around.
	return api.Word{Hi: w.Hi<<n | w.Lo>>(64-n) | w.Lo<<(n-64), Lo: w.Lo << n}
}

// right returns w divided by 2^k, rounded down; k is not below 0.
func right(w api.Word, k int) api.Word {
	n := uint(k)
	return api.Word{Hi: w.Hi >> n, Lo: w.Lo>>n | w.Hi<<(64-n) | w.Hi>>(n-64)}
}

// plus returns the sum.
func plus(v, w api.Word) api.Word {
	low, carry := bits.Add64(v.Lo, w.Lo, 0)
	high, _ := bits.Add64(v.Hi, w.Hi, carry)
	return api.Word{Hi: high, Lo: low}
}

// minus returns the difference v less w.
func minus(v, w api.Word) api.Word {
	low, borrow := bits.Sub64(v.Lo, w.Lo, 0)
	high, _ := bits.Sub64(v.Hi, w.Hi, borrow)
	return api.Word{Hi: high, Lo: low}
}

// less reports whether v is less than w.
func less(v, w api.Word) bool {
	return v.Hi < w.Hi || v.Hi == w.Hi && v.Lo < w.Lo
}

// one returns the integer 1.
func one() api.Word { return api.Word{Lo: 1} }

// bit returns the word in which the bit k alone is 1.
func bit(k int) api.Word { return left(one(), k) }

// toNum returns a word of a format, or a part of one, as a number.
func toNum(w api.Word) exact.Num {
	low := exact.Int(int64(w.Lo & (1<<pieceBits - 1)))
	high := right(w, pieceBits).Lo
	if high == 0 {
		return low
	}
	return shifted(exact.Int(int64(high)), pieceBits).Add(low)
}

// toWord returns an integer from 0 to 2^124 - 1 as a word.
func toWord(n exact.Num) api.Word {
	if small, e := n.Int64(); e == api.OK {
		return api.Word{Lo: uint64(small)}
	}
	high := shifted(n, -pieceBits).Floor()
	low := n.Sub(shifted(high, pieceBits))
	return plus(left(toWord(high), pieceBits), toWord(low))
}
