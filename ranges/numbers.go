package ranges

import (
	"vernier/api"
	"vernier/exact"
)

// half returns half of a number.
func half(x exact.Num) exact.Num {
	x, _ = x.Shift(-1)
	return x
}

// inverseOf returns 1 divided by a number that is not 0.
func inverseOf(x exact.Num) exact.Num {
	x, _ = exact.Int(1).Quo(x)
	return x
}

// isLong reports whether a number has more than MaxDigits digits. Digits are
// counted only if the logarithms do not tell that there are fewer.
func isLong(x exact.Num) bool {
	top, bottom := x.Parts()
	most, _ := top.Log() // 0 for 0
	more, _ := bottom.Log()
	return max(most, more) >= 3*api.MaxDigits && x.Digits() > api.MaxDigits
}
