package reals

// field is the rational numbers, if it is nil; otherwise the numbers that are made
// of those of the field below and of one root. This is not in the field below: so
// each number is one surd alone, which tells at once whether the number is 0, and
// whether it is rational.
type field struct {
	below  *field
	root   int  // the number of its node; those of the field below are less
	square surd // of the root, in the field below
}

func (f *field) times(x, y surd) surd {
	if len(x) == 0 || len(y) == 0 {
		return nil
	}
	if f == nil {
		return constant(x[rootSet{}].Mul(y[rootSet{}]))
	}
	a, b := x.split(f.root)
	c, d := y.split(f.root)
	k := f.below
	low := k.times(a, c).plus(k.times(k.times(b, d), f.square))
	high := k.times(a, d).plus(k.times(b, c))
	return join(low, high, f.root)
}

// norm returns the product of low + high times the root, and low less that. It is
// in the field below, and it is 0 only if low and high are.
func (f *field) norm(low, high surd) surd {
	k := f.below
	return k.times(low, low).minus(k.times(k.times(high, high), f.square))
}

// inverse returns 1 divided by x, which is not 0.
func (f *field) inverse(x surd) surd {
	if f == nil {
		c, _ := one().Quo(x[rootSet{}])
		return constant(c)
	}
	low, high := x.split(f.root)
	by := f.below.inverse(f.norm(low, high))
	return join(f.below.times(low, by), f.below.times(high, by).negative(), f.root)
}

// sqrt returns a number of the field whose square is x, if there is one. It may be
// the root or its negative.
func (f *field) sqrt(x surd) (surd, bool) {
	if f == nil {
		root, is := x[rootSet{}].Root()
		return constant(root), is
	}
	low, high := x.split(f.root)
	if len(high) == 0 {
		return f.sqrtOfLow(low)
	}
	// Of the square of p plus q times the root, low is p p + q q square, high is
	// 2 p q, and the norm is n n, where n is p p - q q square. So p p is half of
	// low + n; and p is not 0, as high is not 0.
	n, is := f.below.sqrt(f.norm(low, high))
	if !is {
		return nil, false
	}
	for _, n := range [...]surd{n, n.negative()} {
		p, is := f.below.sqrt(low.plus(n).scaled(half()))
		if is {
			q := f.below.times(high.scaled(half()), f.below.inverse(p))
			return join(p, q, f.root), true
		}
	}
	return nil, false
}

// sqrtOfLow is sqrt for a number of the field below: its root is in the field
// below, or it is a number of that one times the root.
func (f *field) sqrtOfLow(x surd) (surd, bool) {
	k := f.below
	if root, is := k.sqrt(x); is {
		return root, true
	}
	p, is := k.sqrt(k.times(x, f.square))
	if !is {
		return nil, false
	}
	return join(nil, k.times(p, k.inverse(f.square)), f.root), true
}
