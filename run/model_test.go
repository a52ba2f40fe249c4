package run_test

import (
	"math/big"

	"vernier/api"
)

// This file has a second making of both runs, in the numbers of math/big: values of
// floating-point runs by the definition of rounding, and those of real runs as
// numbers with so many bits that what is below 2^-modelZero can only be 0.
const (
	modelBits = 4500
	modelZero = 2500
)

var (
	zero = new(big.Rat)
	unit = big.NewRat(1, 1)
)

func toRat(text api.Rat) *big.Rat {
	x, ok := new(big.Rat).SetString(string(text))
	if !ok {
		panic("no number: " + string(text))
	}
	return x
}

func toText(x *big.Rat) api.Rat { return api.Rat(x.RatString()) }

func twoTo(k int) *big.Rat {
	x := new(big.Rat).SetInt(new(big.Int).Lsh(big.NewInt(1), uint(max(k, -k))))
	if k < 0 {
		x.Inv(x)
	}
	return x
}

func digitsOf(x *big.Rat) int {
	top := new(big.Int).Abs(x.Num())
	return max(len(top.String()), len(x.Denom().String()))
}

// logOf returns the logarithm of the size of a number that is not 0, rounded down.
func logOf(x *big.Rat) int {
	size := new(big.Rat).Abs(x)
	k := size.Num().BitLen() - size.Denom().BitLen()
	if size.Cmp(twoTo(k)) < 0 {
		k--
	}
	return k
}

func bias(f api.Format) int { return 1<<(f.E-1) - 1 }

func normalOf(f api.Format) *big.Rat { return twoTo(1 - bias(f)) }

func greatestOf(f api.Format) *big.Rat {
	return new(big.Rat).Sub(twoTo(bias(f)+1), twoTo(bias(f)-f.P+1))
}

// stepAt returns the step of a format at numbers with a logarithm.
func stepAt(f api.Format, k int) *big.Rat { return twoTo(max(k, 1-bias(f)) - f.P + 1) }

// choose returns one of two multiples of a step, n steps and perhaps 1 more, for a
// number that lies above the lesser one as far as order tells: 0 at it, 1 nearer to
// it, 2 in the middle, 3 nearer to the next one.
func choose(mode int, n *big.Int, order int, negative bool) *big.Int {
	up := false
	switch mode {
	case api.RnEven:
		up = order == 3 || order == 2 && n.Bit(0) == 1
	case api.RnAway:
		up = order == 3 || order == 2 && !negative
	case api.RnTrunc:
		up = order > 0 && negative
	case api.RnUp:
		up = order > 0
	}
	if up {
		return new(big.Int).Add(n, big.NewInt(1))
	}
	return n
}

// settle returns a multiple of a step, or what an overflow is rounded to; infinite
// tells that it is no value.
func settle(f api.Format, mode int, n *big.Int, step *big.Rat, negative bool) (y *big.Rat, infinite bool) {
	y = new(big.Rat).Mul(new(big.Rat).SetInt(n), step)
	greatest := greatestOf(f)
	if new(big.Rat).Abs(y).Cmp(greatest) <= 0 {
		return y, false
	}
	switch {
	case mode == api.RnEven || mode == api.RnAway:
		return nil, true
	case negative && mode == api.RnDown || !negative && mode == api.RnUp:
		return nil, true
	case negative:
		return greatest.Neg(greatest), false
	}
	return greatest, false
}

// roundModel rounds a number.
func roundModel(f api.Format, mode int, x *big.Rat) (y *big.Rat, infinite bool) {
	if x.Sign() == 0 {
		return zero, false
	}
	step := stepAt(f, logOf(x))
	q := new(big.Rat).Quo(x, step)
	n, rest := new(big.Int).DivMod(q.Num(), q.Denom(), new(big.Int))
	order := 0
	if rest.Sign() > 0 {
		order = 2 + rest.Lsh(rest, 1).Cmp(q.Denom())
	}
	return settle(f, mode, choose(mode, n, order, x.Sign() < 0), step, x.Sign() < 0)
}

// rootModel rounds the square root of a number that is not below 0.
func rootModel(f api.Format, mode int, x *big.Rat) (y *big.Rat, infinite bool) {
	if x.Sign() == 0 {
		return zero, false
	}
	k := logOf(x)
	if k%2 != 0 {
		k--
	}
	step := stepAt(f, k/2)
	q := new(big.Rat).Quo(x, new(big.Rat).Mul(step, step))
	n := new(big.Int).Div(q.Num(), q.Denom())
	n.Sqrt(n)
	whole := new(big.Rat).SetInt(n)
	middle := new(big.Rat).Add(whole, big.NewRat(1, 2))
	order := 0
	if q.Cmp(whole.Mul(whole, whole)) > 0 {
		order = 2 + q.Cmp(middle.Mul(middle, middle))
	}
	return settle(f, mode, choose(mode, n, order, false), step, false)
}

// squareRoot returns the rational square root of a number, if it has one.
func squareRoot(x *big.Rat) (*big.Rat, bool) {
	if x.Sign() < 0 {
		return nil, false
	}
	root := new(big.Rat).SetFrac(new(big.Int).Sqrt(x.Num()), new(big.Int).Sqrt(x.Denom()))
	return root, new(big.Rat).Mul(root, root).Cmp(x) == 0
}

// rational returns the value over the reals of an operation that is not OpSqrt.
func rational(op int, in []*big.Rat) (x *big.Rat, fault int) {
	x = new(big.Rat)
	switch op {
	case api.OpNeg:
		return x.Neg(in[0]), 0
	case api.OpAbs:
		return x.Abs(in[0]), 0
	case api.OpCast:
		return in[0], 0
	case api.OpAdd:
		return x.Add(in[0], in[1]), 0
	case api.OpSub:
		return x.Sub(in[0], in[1]), 0
	case api.OpMul:
		return x.Mul(in[0], in[1]), 0
	case api.OpDiv:
		if in[1].Sign() == 0 {
			return nil, api.RnZero
		}
		return x.Quo(in[0], in[1]), 0
	case api.OpMin, api.OpMax:
		if (op == api.OpMin) == (in[0].Cmp(in[1]) <= 0) {
			return in[0], 0
		}
		return in[1], 0
	case api.OpFma:
		return x.Add(x.Mul(in[0], in[1]), in[2]), 0
	case api.OpSel:
		if in[0].Cmp(in[1]) <= 0 {
			return in[2], 0
		}
		return in[3], 0
	}
	panic("no such operation")
}

// operateModel is Operate for valid arguments.
func operateModel(f api.Format, mode, op int, in []*big.Rat) (y *big.Rat, fault int) {
	var infinite bool
	if op == api.OpSqrt {
		if in[0].Sign() < 0 {
			return nil, api.RnRoot
		}
		y, infinite = rootModel(f, mode, in[0])
	} else {
		x, fault := rational(op, in)
		if fault != 0 {
			return nil, fault
		}
		y, infinite = roundModel(f, mode, x)
	}
	if infinite {
		return nil, api.RnOverflow
	}
	return y, 0
}

// surd is a value of a real run: plain, or told by a node of the list.
type surd struct {
	plain *big.Rat
	node  int
	x     *big.Float
}

func plainSurd(x *big.Rat) surd {
	return surd{plain: x, x: new(big.Float).SetPrec(modelBits).SetRat(x)}
}

func signOf(x *big.Float) int {
	if x.Sign() == 0 || x.MantExp(nil) < -modelZero {
		return 0
	}
	return x.Sign()
}

func (x surd) compare(y surd) int {
	if x.plain != nil && y.plain != nil {
		return x.plain.Cmp(y.plain)
	}
	return signOf(new(big.Float).SetPrec(modelBits).Sub(x.x, y.x))
}

// listModel is the list of a real run.
type listModel struct {
	nodes   []api.RlNode
	weights []int
	large   bool
}

func (l *listModel) number(x *big.Rat) int {
	l.nodes = append(l.nodes, api.RlNode{Kind: api.RlNum, Val: toText(x)})
	l.weights = append(l.weights, digitsOf(x))
	return len(l.nodes) - 1
}

func (l *listModel) operation(kind int, operands ...int) int {
	x := api.RlNode{Kind: kind, A: operands[0]}
	weight := l.weights[operands[0]]
	if len(operands) == 2 {
		x.B = operands[1]
		weight += l.weights[operands[1]]
	}
	l.nodes = append(l.nodes, x)
	l.weights = append(l.weights, weight)
	l.large = l.large || weight > 800
	return len(l.nodes) - 1
}

func (l *listModel) isLarge() bool {
	roots := 0
	for _, x := range l.nodes {
		if x.Kind == api.RlRoot {
			roots++
		}
	}
	return l.large || len(l.nodes) > 200 || roots > 3
}

var kindsModel = map[int]int{
	api.OpNeg: api.RlNeg, api.OpAbs: api.RlAbs, api.OpSqrt: api.RlRoot, api.OpAdd: api.RlAdd, api.OpSub: api.RlSub,
	api.OpMul: api.RlMul, api.OpDiv: api.RlQuo, api.OpMin: api.RlMin, api.OpMax: api.RlMax,
}

// apply does an operation that is not OpSel or OpCast with values.
func (l *listModel) apply(op int, in []surd) (surd, int) {
	var plain []*big.Rat
	for _, x := range in {
		if x.plain != nil {
			plain = append(plain, x.plain)
		}
	}
	if len(plain) == len(in) && op != api.OpSqrt {
		x, fault := rational(op, plain)
		if fault != 0 {
			return surd{}, fault
		}
		return plainSurd(x), 0
	}
	if op == api.OpSqrt {
		if signOf(in[0].x) < 0 {
			return surd{}, api.RnRoot
		}
		if len(plain) == 1 {
			if root, is := squareRoot(plain[0]); is {
				return plainSurd(root), 0
			}
		}
	}
	x, fault := floatValue(op, in)
	if fault != 0 {
		return surd{}, fault
	}
	var at []int
	for _, y := range in {
		if y.plain != nil {
			at = append(at, l.number(y.plain))
		} else {
			at = append(at, y.node)
		}
	}
	if op == api.OpFma {
		return surd{node: l.operation(api.RlAdd, l.operation(api.RlMul, at[0], at[1]), at[2]), x: x}, 0
	}
	return surd{node: l.operation(kindsModel[op], at...), x: x}, 0
}

func floatValue(op int, in []surd) (*big.Float, int) {
	x := new(big.Float).SetPrec(modelBits)
	switch op {
	case api.OpNeg:
		x.Neg(in[0].x)
	case api.OpAbs:
		x.Abs(in[0].x)
	case api.OpSqrt:
		if signOf(in[0].x) > 0 {
			x.Sqrt(in[0].x)
		}
	case api.OpAdd:
		x.Add(in[0].x, in[1].x)
	case api.OpSub:
		x.Sub(in[0].x, in[1].x)
	case api.OpMul:
		x.Mul(in[0].x, in[1].x)
	case api.OpDiv:
		if signOf(in[1].x) == 0 {
			return nil, api.RnZero
		}
		x.Quo(in[0].x, in[1].x)
	case api.OpFma:
		x.Add(x.Mul(in[0].x, in[1].x), in[2].x)
	case api.OpMin, api.OpMax:
		if (op == api.OpMin) == (in[0].compare(in[1]) <= 0) {
			return in[0].x, 0
		}
		return in[1].x, 0
	}
	return x, 0
}
