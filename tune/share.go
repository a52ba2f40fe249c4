package tune

import (
	"vernier/api"
	"vernier/exact"
)

// maxShare is the greatest share, in hundredths, that is told.
const maxShare = 1_000_000_000

// share returns how many hundredths of a bound are found.
func share(found, bound exact.Num) (int, api.Errno) {
	part, e := found.Mul(exact.Int(100)).Quo(bound)
	if e != api.OK {
		return 0, e
	}
	part = part.Floor()
	if part.Cmp(exact.Int(maxShare)) > 0 {
		return 0, api.ErrLong
	}
	whole, e := part.Int64()
	return int(whole), e
}
