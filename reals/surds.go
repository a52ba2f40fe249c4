package reals

import (
	"maps"

	"vernier/api"
	"vernier/exact"
)

// rootSet is a set of roots: the numbers of their nodes, descending, and then
// zeros. (Node 0 is no root, as it has no earlier node.)
type rootSet [api.MaxRlRoots]int

// rest returns the set without its greatest number.
func (s rootSet) rest() rootSet {
	var out rootSet
	copy(out[:], s[1:])
	return out
}

// with returns the set and one more number, which is greater than those in it.
func (s rootSet) with(root int) rootSet {
	out := rootSet{root}
	copy(out[1:], s[:])
	return out
}

// union returns the numbers of both sets, if a set can have so many.
func (s rootSet) union(t rootSet) (both rootSet, fits bool) {
	for n := range both {
		root := max(s[0], t[0])
		both[n] = root
		if root != 0 && s[0] == root {
			s = s.rest()
		}
		if root != 0 && t[0] == root {
			t = t.rest()
		}
	}
	return both, s[0] == 0 && t[0] == 0
}

// surd is a sum of products of roots. Each set of roots has the number, which is
// not 0, that its product is multiplied by; so 0 is the empty map. A surd that is
// finished never changes, so that others may share it.
type surd map[rootSet]exact.Num

func one() exact.Num { return exact.Int(1) }

func half() exact.Num {
	x, _ := exact.Two(-1)
	return x
}

func constant(x exact.Num) surd {
	if x.Sign() == 0 {
		return nil
	}
	return surd{rootSet{}: x}
}

// rational returns the number that x is, if it has no roots.
func (x surd) rational() (exact.Num, bool) {
	c := x[rootSet{}]
	return c, len(x) == 0 || len(x) == 1 && c.Sign() != 0
}

func (x surd) equals(y surd) bool {
	return maps.EqualFunc(x, y, func(a, b exact.Num) bool { return a.Cmp(b) == 0 })
}

func (x surd) plus(y surd) surd {
	switch {
	case len(x) == 0:
		return y
	case len(y) == 0:
		return x
	}
	out := maps.Clone(x)
	for s, c := range y {
		out[s] = out[s].Add(c)
		if out[s].Sign() == 0 {
			delete(out, s)
		}
	}
	return out
}

// scaled returns x times a number.
func (x surd) scaled(by exact.Num) surd {
	if by.Sign() == 0 {
		return nil
	}
	out := make(surd, len(x))
	for s, c := range x {
		out[s] = c.Mul(by)
	}
	return out
}

func (x surd) negative() surd { return x.scaled(exact.Int(-1)) }

func (x surd) minus(y surd) surd { return x.plus(y.negative()) }

// split returns low and high, both without the root, where x is low plus high
// times the root. No root of x is greater.
func (x surd) split(root int) (low, high surd) {
	low, high = surd{}, surd{}
	for s, c := range x {
		if s[0] == root {
			high[s.rest()] = c
		} else {
			low[s] = c
		}
	}
	return low, high
}

// join returns low plus high times the root, which is greater than the roots of
// both.
func join(low, high surd, root int) surd {
	out := make(surd, len(low)+len(high))
	maps.Copy(out, low)
	for s, c := range high {
		out[s.with(root)] = c
	}
	return out
}
