package reals

import "maps"

// tower is the field of some roots. Some of them may be numbers of the field of the
// others: root(8) of that of root(2), or root(6) of that of root(2) and root(3).
type tower struct {
	field     *field
	roots     map[int]surd // what each root is in the field
	dependent bool         // whether a root is in the field of the others
}

// extended returns the tower with one more root, of which the square is told.
func (t *tower) extended(root int, square surd) *tower {
	square = t.lifted(square)
	out := &tower{field: t.field, roots: map[int]surd{}, dependent: true}
	maps.Copy(out.roots, t.roots)
	x, is := t.field.sqrt(square)
	switch {
	case !is:
		out.field, out.dependent = &field{t.field, root, square}, t.dependent
		x = surd{rootSet{root}: one()}
	case whole(t.field, x).sign() < 0:
		x = x.negative()
	}
	out.roots[root] = x
	return out
}

// lifted returns a surd of the field of fewer roots as one of this field.
func (t *tower) lifted(x surd) surd {
	if !t.dependent {
		return x
	}
	var sum surd
	for s, c := range x {
		product := constant(c)
		for ; s[0] != 0; s = s.rest() {
			product = t.field.times(product, t.roots[s[0]])
		}
		sum = sum.plus(product)
	}
	return sum
}

// raised returns a number of the field of fewer roots as one of this field.
func (t *tower) raised(x quotient) quotient {
	if x.field == t.field {
		return x
	}
	return newQuotient(t.field, t.lifted(x.top), t.lifted(x.bottom))
}
