package proofs

import (
	"vernier/api"
	"vernier/exact"
)

// claim is where real values are, and how far from them floating-point values are at
// most.
type claim struct {
	interval
	err exact.Num
}

// floating returns where floating-point values are.
func (c claim) floating() interval { return c.widen(c.err) }

func (c claim) isWithin(d claim) bool {
	return c.interval.isWithin(d.interval) && c.err.Cmp(d.err) <= 0
}

// readClaim returns the error of the first text that has one, or ErrClaim if the
// claim is not well-formed.
func readClaim(lo, hi, err api.Rat) (claim, api.Errno) {
	numbers, e := readNumbers(lo, hi, err)
	if e != api.OK {
		return claim{}, e
	}
	c := claim{interval{numbers[0], numbers[1]}, numbers[2]}
	if c.lo.Cmp(c.hi) > 0 || c.err.Sign() < 0 {
		return claim{}, ErrClaim
	}
	return c, api.OK
}

// readNumbers returns the numbers of texts, or the error of the first that has one.
func readNumbers(texts ...api.Rat) ([]exact.Num, api.Errno) {
	out := make([]exact.Num, len(texts))
	for i, text := range texts {
		var e api.Errno
		if out[i], e = exact.Parse(text); e != api.OK {
			return nil, e
		}
	}
	return out, api.OK
}

func hasSquares(c api.PfClaim) bool { return len(c.Low) > 0 || len(c.High) > 0 }

// isZero reports whether nothing is claimed.
func isZero(c api.PfClaim) bool {
	return c.Rule == 0 && c.Lo == "" && c.Hi == "" && c.Err == "" && !hasSquares(c)
}
