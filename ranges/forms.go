package ranges

import (
	"slices"

	"vernier/api"
	"vernier/exact"
)

// form is an affine form: it stands for all functions that differ from the center
// and the slopes times the inputs by at most the radius.
type form struct {
	center exact.Num
	slopes []exact.Num
	radius exact.Num
}

// reach returns how far numbers of the form are from its center at most.
func (x form) reach() exact.Num {
	reach := x.radius
	for _, s := range x.slopes {
		reach = reach.Add(s.Abs())
	}
	return reach
}

func (x form) interval() Interval {
	reach := x.reach()
	return Interval{x.center.Sub(reach), x.center.Add(reach)}
}

// isLong reports whether a part has too many digits.
func (x form) isLong() bool {
	return isLong(x.center) || slices.ContainsFunc(x.slopes, isLong) || isLong(x.radius)
}

// tidy rounds the center and the slopes down, and adds to the radius what they have
// lost.
func (x form) tidy() form {
	lost := x.radius
	down := func(n exact.Num) exact.Num {
		less := n.Down(api.RgBits)
		lost = lost.Add(n.Sub(less))
		return less
	}
	center, slopes := down(x.center), each(x.slopes, down)
	return form{center, slopes, lost.Up(api.RgBits)}
}

// each returns what becomes of each number of a list.
func each(l []exact.Num, become func(exact.Num) exact.Num) []exact.Num {
	out := make([]exact.Num, len(l))
	for i, x := range l {
		out[i] = become(x)
	}
	return out
}

// pairs returns what becomes of each number of a list with that of another list.
func pairs(a, b []exact.Num, become func(x, y exact.Num) exact.Num) []exact.Num {
	out := make([]exact.Num, len(a))
	for i := range a {
		out[i] = become(a[i], b[i])
	}
	return out
}

func (x form) neg() form {
	return form{x.center.Neg(), each(x.slopes, exact.Num.Neg), x.radius}
}

func (x form) half() form { return form{half(x.center), each(x.slopes, half), half(x.radius)} }

func (x form) add(y form) form {
	return form{x.center.Add(y.center), pairs(x.slopes, y.slopes, exact.Num.Add), x.radius.Add(y.radius)}
}

func (x form) sub(y form) form { return x.add(y.neg()) }

func (x form) mul(y form) form {
	slope := func(a, b exact.Num) exact.Num { return x.center.Mul(b).Add(y.center.Mul(a)) }
	radius := x.center.Abs().Mul(y.radius).Add(y.center.Abs().Mul(x.radius)).Add(x.reach().Mul(y.reach()))
	return form{x.center.Mul(y.center), pairs(x.slopes, y.slopes, slope), radius}
}

// image returns the form under a line with the factor m: what is added to the line
// is in an interval.
func (x form) image(m exact.Num, added Interval) form {
	slopes := each(x.slopes, m.Mul)
	return form{m.Mul(x.center).Add(added.middle()), slopes, m.Abs().Mul(x.radius).Add(half(added.width()))}
}

// inverse returns 1 divided by the form, whose interval does not contain 0.
func (x form) inverse() form {
	a := x.interval()
	if a.hi.Sign() < 0 {
		return x.neg().inverse().neg()
	}
	low, high := inverseOf(a.hi), inverseOf(a.lo)
	m := low.Mul(low)
	return x.image(m.Neg(), Interval{low.Add(low), high.Add(m.Mul(a.lo))})
}

func (x form) sqrt() (form, api.Errno) {
	a := x.interval()
	root, e := a.Sqrt(api.RgBits)
	switch {
	case e != api.OK:
		return form{}, e
	case a.hi.Sign() == 0:
		return x, api.OK // all of it is 0
	}
	m := half(inverseOf(root.hi))
	return x.image(m, Interval{root.lo.Sub(m.Mul(a.lo)), root.hi.Sub(m.Mul(a.hi))}), api.OK
}

func (x form) abs() form {
	a := x.interval()
	switch {
	case a.lo.Sign() >= 0:
		return x
	case a.hi.Sign() <= 0:
		return x.neg()
	}
	m := a.hi.Add(a.lo).Mul(inverseOf(a.width()))
	return x.image(m, Interval{hi: a.hi.Mul(exact.Int(1).Sub(m))})
}

// sumAndDistance returns the sum of two forms, and the size of their difference:
// the lesser one of both is half of the first less the second, the greater one half
// of their sum.
func sumAndDistance(x, y form) (sum, distance form) {
	return x.add(y).tidy(), x.sub(y).tidy().abs().tidy()
}

// selectForm returns what OpSel makes of forms.
func selectForm(in []form) form {
	order := in[0].sub(in[1]).tidy().interval()
	z, w := in[2], in[3]
	switch {
	case order.hi.Sign() <= 0:
		return z
	case order.lo.Sign() > 0:
		return w
	}
	apart := z.sub(w)
	apart.radius = exact.Num{}
	out := z.add(w).half()
	out.radius = z.radius.Max(w.radius).Add(half(apart.center.Abs().Add(apart.reach())))
	return out
}

// forms is the domain of affine forms over a box.
type forms struct {
	*subject
	box []Interval
}

// formOver returns the affine form of the node.
func (s *subject) formOver(box []Interval) (form, api.Errno) {
	all, e := evaluate[form](s, forms{s, box})
	if e != api.OK {
		return form{}, e
	}
	return all[s.node], api.OK
}

func (d forms) input(i int) form {
	x := d.number(d.box[i].middle())
	x.slopes[i] = half(d.box[i].width())
	return x
}

func (d forms) number(x exact.Num) form {
	return form{center: x, slopes: make([]exact.Num, len(d.box))}
}

func (d forms) apply(node int, in []form) (form, api.Errno) {
	x, e := operateForms(d.Nodes[node].Op, in)
	return x.tidy(), e
}

// operateForms returns what an operation makes of forms, before it is tidied.
func operateForms(op int, in []form) (form, api.Errno) {
	switch op {
	case api.OpNeg:
		return in[0].neg(), api.OK
	case api.OpAbs:
		return in[0].abs(), api.OK
	case api.OpSqrt:
		return in[0].sqrt()
	case api.OpAdd:
		return in[0].add(in[1]), api.OK
	case api.OpSub:
		return in[0].sub(in[1]), api.OK
	case api.OpMul:
		return in[0].mul(in[1]), api.OK
	case api.OpDiv:
		if in[1].interval().Has(exact.Num{}) {
			return form{}, api.ErrZero
		}
		return in[0].mul(in[1].inverse().tidy()), api.OK
	case api.OpMin:
		sum, distance := sumAndDistance(in[0], in[1])
		return sum.sub(distance).half(), api.OK
	case api.OpMax:
		sum, distance := sumAndDistance(in[0], in[1])
		return sum.add(distance).half(), api.OK
	case api.OpFma:
		return in[0].mul(in[1]).tidy().add(in[2]), api.OK
	case api.OpSel:
		return selectForm(in), api.OK
	}
	return in[0], api.OK
}
