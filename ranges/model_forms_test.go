package ranges_test

import (
	"math/big"
	"strings"

	"vernier/api"
)

// formModel is an affine form.
type formModel struct {
	center *big.Rat
	slopes []*big.Rat
	radius *big.Rat
}

func constantForm(x *big.Rat, inputs int) formModel {
	f := formModel{center: x, radius: new(big.Rat)}
	for range inputs {
		f.slopes = append(f.slopes, new(big.Rat))
	}
	return f
}

func (x formModel) text() string {
	words := []string{toText(x.center)}
	for _, s := range x.slopes {
		words = append(words, toText(s))
	}
	return strings.Join(append(words, toText(x.radius)), " ")
}

func (x formModel) reach() *big.Rat {
	out := x.radius
	for _, s := range x.slopes {
		out = sum(out, size(s))
	}
	return out
}

func (x formModel) span() span { return span{less(x.center, x.reach()), sum(x.center, x.reach())} }

func (x formModel) tidied() formModel {
	out := formModel{center: downTo(x.center, 96)}
	lost := less(x.center, out.center)
	for _, s := range x.slopes {
		out.slopes = append(out.slopes, downTo(s, 96))
		lost = sum(lost, less(s, downTo(s, 96)))
	}
	out.radius = upTo(sum(x.radius, lost), 96)
	return out
}

// combined returns a times x and b times y, with this radius.
func combined(a *big.Rat, x formModel, b *big.Rat, y formModel, radius *big.Rat) formModel {
	out := formModel{center: sum(product(a, x.center), product(b, y.center)), radius: radius}
	for i := range x.slopes {
		out.slopes = append(out.slopes, sum(product(a, x.slopes[i]), product(b, y.slopes[i])))
	}
	return out
}

func (x formModel) scaled(m *big.Rat) formModel {
	return combined(m, x, new(big.Rat), x, product(size(m), x.radius))
}

func (x formModel) plus(y formModel, sign int64) formModel {
	return combined(rat(1, 1), x, rat(sign, 1), y, sum(x.radius, y.radius))
}

func (x formModel) by(y formModel) formModel {
	radius := sum(product(size(x.center), y.radius), product(size(y.center), x.radius), product(x.reach(), y.reach()))
	out := combined(y.center, x, x.center, y, radius)
	out.center = product(x.center, y.center)
	return out
}

func (x formModel) image(m, lo, hi *big.Rat) formModel {
	out := x.scaled(m)
	out.center = sum(out.center, halfOf(sum(lo, hi)))
	out.radius = sum(out.radius, halfOf(less(hi, lo)))
	return out
}

func (x formModel) inverse() formModel {
	l, h := x.span().lo, x.span().hi
	if h.Sign() < 0 {
		return x.scaled(rat(-1, 1)).inverse().scaled(rat(-1, 1))
	}
	square := product(h, h)
	return x.image(quotient(rat(-1, 1), square), quotient(rat(2, 1), h), sum(quotient(rat(1, 1), l), quotient(l, square)))
}

func (x formModel) root() formModel {
	l, h := x.span().lo, x.span().hi
	if h.Sign() == 0 {
		return constantForm(new(big.Rat), len(x.slopes))
	}
	r := rootUpTo(h, 96)
	m := quotient(rat(1, 2), r)
	return x.image(m, less(rootDownTo(l, 96), product(m, l)), less(r, product(m, h)))
}

func (x formModel) abs() formModel {
	l, h := x.span().lo, x.span().hi
	if l.Sign() >= 0 {
		return x
	}
	if h.Sign() <= 0 {
		return x.scaled(rat(-1, 1))
	}
	m := quotient(sum(h, l), less(h, l))
	return x.image(m, new(big.Rat), product(h, less(rat(1, 1), m)))
}

// selected returns what OpSel makes of forms.
func selected(in []formModel) formModel {
	order := in[0].plus(in[1], -1).tidied().span()
	z, w := in[2], in[3]
	if order.hi.Sign() <= 0 {
		return z
	}
	if order.lo.Sign() > 0 {
		return w
	}
	apart := size(less(z.center, w.center))
	for i := range z.slopes {
		apart = sum(apart, size(less(z.slopes[i], w.slopes[i])))
	}
	return combined(rat(1, 2), z, rat(1, 2), w, sum(greatest(z.radius, w.radius), halfOf(apart)))
}

// formOf returns the affine form of the node.
func (m *model) formOf(box []span) (formModel, api.Errno) {
	out := map[int]formModel{}
	for _, i := range m.deps {
		n := m.p.Nodes[i]
		var in []formModel
		for _, k := range operandsOf(n) {
			in = append(in, out[k])
		}
		var x formModel
		switch n.Op {
		case api.OpState:
			return x, 160
		case api.OpInput:
			x = constantForm(box[n.A].mid(), len(box))
			x.slopes[n.A] = box[n.A].halfWidth()
		case api.OpConst:
			x = constantForm(toRat(n.Value), len(box))
		case api.OpDiv:
			if in[1].span().has(new(big.Rat)) {
				return x, api.ErrZero
			}
			x = in[0].by(in[1].inverse().tidied()).tidied()
		case api.OpSqrt:
			if in[0].span().lo.Sign() < 0 {
				return x, api.ErrDomain
			}
			x = in[0].root().tidied()
		default:
			x = operateFormsModel(n.Op, in).tidied()
		}
		if isLongModel(append(x.slopes, x.center, x.radius)...) {
			return formModel{}, api.ErrLong
		}
		out[i] = x
	}
	return out[m.node], api.OK
}

func operateFormsModel(op int, in []formModel) formModel {
	switch op {
	case api.OpNeg:
		return in[0].scaled(rat(-1, 1))
	case api.OpAbs:
		return in[0].abs()
	case api.OpAdd:
		return in[0].plus(in[1], 1)
	case api.OpSub:
		return in[0].plus(in[1], -1)
	case api.OpMul:
		return in[0].by(in[1])
	case api.OpFma:
		return in[0].by(in[1]).tidied().plus(in[2], 1)
	case api.OpMin, api.OpMax:
		sign := int64(-1)
		if op == api.OpMax {
			sign = 1
		}
		s := in[0].plus(in[1], 1).tidied()
		t := in[0].plus(in[1], -1).tidied().abs().tidied()
		return s.plus(t, sign).scaled(rat(1, 2))
	case api.OpSel:
		return selected(in)
	}
	return in[0]
}
