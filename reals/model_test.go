package reals_test

import (
	"math/big"
	"slices"
	"testing"

	"vernier/api"
	"vernier/exact"
)

// The model computes with so many bits. It takes what is below 2^-modelZero for 0,
// which is right while no number that is not 0 can be so small: for that, weights
// are at most modelWeight.
const (
	modelBits   = 7000
	modelZero   = 3000
	modelWeight = 60
)

// model is what is to be expected of a node: what the chapter defines, computed
// with floating-point numbers of the library.
type model struct {
	e      api.Errno
	weight int
	roots  []int
	plain  *big.Rat // nil, if the node is not plain
	x      *big.Float
}

// modelsOf returns what is to be expected of the nodes of a list that has no error
// of its own.
func modelsOf(l []api.RlNode) []model {
	var out []model
	for j, x := range l {
		var a, b model
		if x.Kind != api.RlNum {
			a = out[x.A]
		}
		if x.Kind >= api.RlAdd {
			b = out[x.B]
		}
		m := model{weight: min(a.weight+b.weight, 2001)}
		if x.Kind == api.RlNum {
			r, _ := new(big.Rat).SetString(string(x.Val))
			top := new(big.Int).Abs(r.Num())
			m.weight = max(len(top.String()), len(r.Denom().String()))
			m.setPlain(r)
		} else {
			m.apply(x.Kind, j, a, b)
		}
		if m.e != api.OK {
			m = model{e: m.e, weight: m.weight}
		}
		out = append(out, m)
	}
	return out
}

func newFloat() *big.Float { return new(big.Float).SetPrec(modelBits) }

func tiny(x *big.Float) bool { return x.Sign() == 0 || x.MantExp(nil) < -modelZero }

func (m *model) setPlain(r *big.Rat) {
	m.plain, m.x = r, newFloat().SetRat(r)
}

// apply finds the error of the node j, or its value.
func (m *model) apply(kind, j int, a, b model) {
	m.roots = slices.Concat(a.roots, b.roots)
	if kind == api.RlRoot && a.e == api.OK && !isSquare(a.plain) {
		m.roots = append(m.roots, j)
	}
	slices.Sort(m.roots)
	m.roots = slices.Compact(m.roots)
	switch {
	case a.e != api.OK:
		m.e = a.e
	case b.e != api.OK:
		m.e = b.e
	case m.weight > 2000:
		m.e = api.ErrLong
	case kind == api.RlQuo && b.x.Sign() == 0:
		m.e = api.ErrZero
	case kind == api.RlRoot && a.x.Sign() < 0:
		m.e = api.ErrDomain
	case len(m.roots) > 3:
		m.e = api.ErrLong
	case len(m.roots) == 0:
		m.setPlain(plainResult(kind, a.plain, b.plain))
	default:
		m.x = floatResult(kind, a.x, b.x)
		if tiny(m.x) {
			m.x = newFloat()
		}
	}
}

func rootOf(n *big.Int) (*big.Int, bool) {
	root := new(big.Int).Sqrt(n)
	return root, new(big.Int).Mul(root, root).Cmp(n) == 0
}

func isSquare(r *big.Rat) bool {
	if r == nil || r.Sign() < 0 {
		return false
	}
	_, top := rootOf(r.Num())
	_, bottom := rootOf(r.Denom())
	return top && bottom
}

func plainResult(kind int, a, b *big.Rat) *big.Rat {
	out := new(big.Rat)
	switch kind {
	case api.RlNeg:
		return out.Neg(a)
	case api.RlAbs:
		return out.Abs(a)
	case api.RlRoot:
		top, _ := rootOf(a.Num())
		bottom, _ := rootOf(a.Denom())
		return out.SetFrac(top, bottom)
	case api.RlAdd:
		return out.Add(a, b)
	case api.RlSub:
		return out.Sub(a, b)
	case api.RlMul:
		return out.Mul(a, b)
	case api.RlQuo:
		return out.Quo(a, b)
	}
	if (kind == api.RlMin) == (a.Cmp(b) < 0) {
		return out.Set(a)
	}
	return out.Set(b)
}

func floatResult(kind int, a, b *big.Float) *big.Float {
	out := newFloat()
	switch kind {
	case api.RlNeg:
		return out.Neg(a)
	case api.RlAbs:
		return out.Abs(a)
	case api.RlRoot:
		return out.Sqrt(a)
	case api.RlAdd:
		return out.Add(a, b)
	case api.RlSub:
		return out.Sub(a, b)
	case api.RlMul:
		return out.Mul(a, b)
	case api.RlQuo:
		return out.Quo(a, b)
	}
	if (kind == api.RlMin) == (a.Cmp(b) < 0) {
		return out.Set(a)
	}
	return out.Set(b)
}

// compare returns the sign of the value less a number.
func (m model) compare(x *big.Rat) int {
	rest := newFloat().Sub(m.x, newFloat().SetRat(x))
	if tiny(rest) {
		return 0
	}
	return rest.Sign()
}

// floor returns the value times 2^k, rounded down.
func (m model) floor(k int) *big.Int {
	x := newFloat().SetMantExp(m.x, k)
	n, _ := x.Int(nil)
	n.Sub(n, big.NewInt(2))
	for next := new(big.Rat); ; {
		next.SetInt(new(big.Int).Add(n, big.NewInt(1)))
		if (model{x: x}).compare(next) < 0 {
			return n
		}
		n = new(big.Int).Set(next.Num())
	}
}

// log returns Log of a value that is not 0.
func (m model) log() int {
	size := model{x: newFloat().Abs(m.x)}
	k := size.x.MantExp(nil)
	for size.compare(twoRat(k)) < 0 {
		k--
	}
	return k
}

func twoRat(k int) *big.Rat {
	out := new(big.Rat).SetInt(new(big.Int).Lsh(big.NewInt(1), uint(max(k, -k))))
	if k < 0 {
		out.Inv(out)
	}
	return out
}

// enclosed returns the numbers with at most so many bits next to the value.
func (m model) enclosed(bits int) (lo, hi *big.Rat) {
	if m.x.Sign() == 0 {
		return new(big.Rat), new(big.Rat)
	}
	unit := m.log() - bits + 1
	n := m.floor(-unit)
	lo = new(big.Rat).Mul(new(big.Rat).SetInt(n), twoRat(unit))
	hi = new(big.Rat).Set(lo)
	if m.compare(lo) != 0 {
		hi.Add(lo, twoRat(unit))
	}
	return lo, hi
}

// toBig returns a number as one of the library.
func toBig(t testing.TB, x exact.Num) *big.Rat {
	t.Helper()
	r, ok := new(big.Rat).SetString(string(x.Text()))
	if !ok {
		t.Fatalf("no number: %.40s", x.Text())
	}
	return r
}
