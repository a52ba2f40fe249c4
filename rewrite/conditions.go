package rewrite

import (
	"vernier/api"
	"vernier/exact"
	"vernier/lang"
)

// both returns the ranges of the nodes that a and b are, if there are both.
func (m *match) both() (a, b bestRange, are bool) {
	a, b = m.rangeOf(m.letters['a']), m.rangeOf(m.letters['b'])
	return a, b, a.is && b.is
}

func aIsAtMostB(m *match) bool {
	a, b, are := m.both()
	return are && a.Hi().Cmp(b.Lo()) <= 0
}

func bIsAtMostA(m *match) bool {
	a, b, are := m.both()
	return are && b.Hi().Cmp(a.Lo()) <= 0
}

func aIsAboveB(m *match) bool {
	a, b, are := m.both()
	return are && a.Lo().Cmp(b.Hi()) > 0
}

func aIsNotBelowZero(m *match) bool {
	a := m.rangeOf(m.letters['a'])
	return a.is && a.Lo().Sign() >= 0
}

// rootsAreAboveZero is about the operands of the node themselves, which no letter is.
func rootsAreAboveZero(m *match) bool {
	x, y := m.rangeOf(m.Nodes[m.at].A), m.rangeOf(m.Nodes[m.at].B)
	return x.is && y.is && x.Lo().Add(y.Lo()).Sign() > 0
}

func hasConstantValue(m *match) bool {
	x, is := m.constantValue()
	return is && x.Digits() <= api.MaxDigits
}

// constantValue returns the value of the node, whose operands are constants, if it is a
// rational number.
func (m *match) constantValue() (x exact.Num, is bool) {
	n := m.Nodes[m.at]
	var in []exact.Num
	for _, k := range lang.Kids(n) {
		x, _ := exact.Parse(m.Nodes[k].Value)
		in = append(in, x)
	}
	return compute(n.Op, in)
}

// compute returns the value of an operation over the reals, if it is a rational number.
func compute(op int, in []exact.Num) (x exact.Num, is bool) {
	switch op {
	case api.OpNeg:
		return in[0].Neg(), true
	case api.OpAbs:
		return in[0].Abs(), true
	case api.OpSqrt:
		return in[0].Root()
	case api.OpCast:
		return in[0], true
	case api.OpAdd:
		return in[0].Add(in[1]), true
	case api.OpSub:
		return in[0].Sub(in[1]), true
	case api.OpMul:
		return in[0].Mul(in[1]), true
	case api.OpDiv:
		x, e := in[0].Quo(in[1])
		return x, e == api.OK
	case api.OpMin:
		return in[0].Min(in[1]), true
	case api.OpMax:
		return in[0].Max(in[1]), true
	case api.OpFma:
		return in[0].Mul(in[1]).Add(in[2]), true
	case api.OpSel:
		if in[0].Cmp(in[1]) <= 0 {
			return in[2], true
		}
		return in[3], true
	}
	return exact.Num{}, false
}
