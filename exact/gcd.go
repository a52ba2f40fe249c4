package exact

import "math/bits"

// gcd returns the greatest common divisor of a and b, both above 0, of which at
// least one is odd.
func gcd(a, b natural) natural {
	if a.cmp(b) < 0 {
		a, b = b, a
	}
	for len(b) > 1 {
		if s := simulate(a, b); s.v0 != 0 {
			a, b = s.apply(a, b)
			continue
		}
		_, rest := a.divide(b)
		a, b = b, rest
	}
	if len(b) == 0 {
		return a
	}
	return fromWord(gcdWords(b[0], a.restByWord(b[0])))
}

// restByWord returns the rest of a divided by w.
func (a natural) restByWord(w uint64) uint64 {
	var rest uint64
	for i := len(a) - 1; i >= 0; i-- {
		_, rest = bits.Div64(rest, a[i], w)
	}
	return rest
}

// gcdWords returns the greatest common divisor of a and b, of which at least one
// is odd: so powers of two can be divided off the other one.
func gcdWords(a, b uint64) uint64 {
	if a%2 == 0 {
		a, b = b, a
	}
	for b != 0 {
		b >>= bits.TrailingZeros64(b)
		if a > b {
			a, b = b, a
		}
		b -= a
	}
	return a
}

// steps are several steps of Euclid's algorithm in one: of a and b they make
// u0 a - v0 b and v1 b - u1 a; if turned, both with the other sign.
type steps struct {
	u0, u1, v0, v1 uint64
	turned         bool
}

// simulate does those steps of Euclid's algorithm that are certain from the
// highest words of a and b alone (Lehmer's method, with Collins's condition for
// certainty). The factors stay one step behind the quotients, as the last
// quotient may be wrong; v0 is 0 exactly if no step is certain. a is at least b,
// and b has at least two words.
func simulate(a, b natural) steps {
	high, low := a.head(0), uint64(0)
	up := uint(bits.LeadingZeros64(a[len(a)-1]))
	switch len(a) - len(b) {
	case 0:
		low = b[len(b)-1]<<up | b[len(b)-2]>>(64-up)
	case 1:
		low = b[len(b)-1] >> (64 - up)
	}
	s := steps{u1: 1, turned: true}
	var u2, v2 uint64 = 0, 1
	for low >= v2 && high-low >= s.v1+v2 {
		times := high / low
		high, low = low, high-times*low
		s.u0, s.u1, u2 = s.u1, u2, s.u1+times*u2
		s.v0, s.v1, v2 = s.v1, v2, s.v1+times*v2
		s.turned = !s.turned
	}
	return s
}

// apply returns what the steps make of a and b.
func (s steps) apply(a, b natural) (natural, natural) {
	if s.turned {
		return difference(b, s.v0, a, s.u0), difference(a, s.u1, b, s.v1)
	}
	return difference(a, s.u0, b, s.v0), difference(b, s.v1, a, s.u1)
}

// difference returns a times v, less b times w, which is not more.
func difference(a natural, v uint64, b natural, w uint64) natural {
	out := make(natural, max(len(a), len(b))+1)
	out[len(a)] = addProduct(out[:len(a)], a, v)
	takeProduct(out, b, w)
	return cutZeros(out)
}
