package exact

import "vernier/api"

// whole returns an integer.
func whole(neg bool, n natural) Num { return fraction(neg, n, nil, 0) }

// increase returns a and 1 more.
func (a natural) increase() natural { return a.add(natural{1}) }

// scaled returns the size of x times 2^k, rounded down.
func (x Num) scaled(k int) natural {
	k += x.twos
	top := x.top.left(max(k, 0)).right(max(-k, 0))
	if x.bottom == nil {
		return top
	}
	quotient, _ := top.divide(x.bottom)
	return quotient
}

// Floor returns the greatest integer that is not greater.
func (x Num) Floor() Num {
	switch {
	case x.IsInt():
		return x
	case x.neg:
		return whole(true, x.scaled(0).increase())
	}
	return whole(false, x.scaled(0))
}

// Ceil returns the least integer that is not less.
func (x Num) Ceil() Num { return x.Neg().Floor().Neg() }

// IsInt reports whether it is an integer.
func (x Num) IsInt() bool { return x.bottom == nil && x.twos >= 0 }

// Int64 returns an integer.
func (x Num) Int64() (int64, api.Errno) {
	const least = 1 << 63 // the size of the least int64
	switch {
	case !x.IsInt():
		return 0, api.ErrForm
	case x.top.size()+x.twos > 64:
		return 0, api.ErrRange
	}
	size := x.top.word(0) << uint(x.twos)
	switch {
	case x.neg && size <= least:
		return -int64(size), api.OK
	case x.neg || size >= least:
		return 0, api.ErrRange
	}
	return int64(size), api.OK
}

// Log returns the logarithm to the base 2, rounded down.
func (x Num) Log() (int, api.Errno) {
	if x.top == nil {
		return 0, api.ErrZero
	}
	return x.log(), api.OK
}

// Down rounds down.
func (x Num) Down(bits int) Num { return x.shorten(bits, x.neg) }

// Up rounds up.
func (x Num) Up(bits int) Num { return x.shorten(bits, !x.neg) }

// limitBits returns the number of bits that an argument stands for.
func limitBits(bits int) int { return min(max(bits, 1), api.MaxBits) }

// shorten rounds x to some bits, towards 0, or away from it.
func (x Num) shorten(bits int, away bool) Num {
	bits = limitBits(bits)
	if x.top == nil || x.bottom == nil && x.top.size() <= bits {
		return x
	}
	unit := x.log() - bits + 1
	n := x.scaled(-unit)
	if away { // x is between two multiples of the unit: it has more bits
		n = n.increase()
	}
	return fraction(x.neg, n, nil, unit)
}

// RootDown returns a number below the square root.
func (x Num) RootDown(bits int) (Num, api.Errno) { return x.shortRoot(bits, false) }

// RootUp returns a number above the square root.
func (x Num) RootUp(bits int) (Num, api.Errno) { return x.shortRoot(bits, true) }

// shortRoot rounds the square root to some bits, down or up.
func (x Num) shortRoot(bits int, up bool) (Num, api.Errno) {
	switch {
	case x.neg:
		return Num{}, api.ErrDomain
	case x.top == nil:
		return Num{}, api.OK
	}
	unit := x.log()>>1 - limitBits(bits) + 1 // the shift rounds down below 0, too
	n := x.scaled(-2 * unit).root()
	root := fraction(false, n, nil, unit)
	if up && root.Mul(root).Cmp(x) != 0 {
		root = fraction(false, n.increase(), nil, unit)
	}
	return root, api.OK
}

// Root returns the square root, if it is a number of this kind.
func (x Num) Root() (Num, bool) {
	switch {
	case x.top == nil:
		return Num{}, true
	case x.neg || x.twos%2 != 0:
		return Num{}, false
	}
	top, is := x.top.exactRoot()
	if !is {
		return Num{}, false
	}
	if x.bottom == nil {
		return Num{false, top, nil, x.twos / 2}, true
	}
	bottom, is := x.bottom.exactRoot()
	if !is {
		return Num{}, false
	}
	return Num{false, top, bottom, x.twos / 2}, true
}

// exactRoot returns the square root of an odd number, if it is an integer.
func (a natural) exactRoot() (natural, bool) {
	if a[0]%8 != 1 { // the square of an odd number is 1 more than a multiple of 8
		return nil, false
	}
	root := a.root()
	return root, root.mul(root).cmp(a) == 0
}

// Simple returns the simplest number between two.
func Simple(lo, hi Num) (Num, api.Errno) {
	order := lo.Cmp(hi)
	switch {
	case order > 0:
		return Num{}, api.ErrRange
	case order == 0:
		return lo, api.OK
	case lo.Sign() > 0:
		return simplest(lo, hi), api.OK
	case hi.Sign() < 0:
		return simplest(hi.Neg(), lo.Neg()).Neg(), api.OK
	}
	return Num{}, api.OK
}

// simplest returns the simplest number between two numbers above 0. It follows
// the continued fractions of both as long as they are the same; where they part,
// the least integer from one to the other ends the one that is returned.
func simplest(lo, hi Num) Num {
	a, b := lo.parts()
	c, d := hi.parts()
	var top0, bottom0 natural = nil, natural{1}
	var top1, bottom1 natural = natural{1}, nil
	for {
		term, loRest := a.divide(b)
		most, hiRest := c.divide(d)
		ends := len(loRest) == 0 || term.cmp(most) < 0
		if len(loRest) != 0 && ends {
			term = term.increase()
		}
		top0, top1 = top1, top1.mul(term).add(top0)
		bottom0, bottom1 = bottom1, bottom1.mul(term).add(bottom0)
		if ends {
			return fraction(false, top1, bottom1, 0)
		}
		a, b, c, d = d, hiRest, b, loRest // the inverses of the rests: the order turns
	}
}
