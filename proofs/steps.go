package proofs

import (
	"vernier/api"
	"vernier/exact"
	"vernier/floats"
)

// operation is a node with the claims of its operands. Of OpInput, OpState and OpConst
// the one claim is what the node stands for.
type operation struct {
	op, mode int
	format   api.Format
	in       [4]claim
}

// step returns the range and the propagated error of the node, if the step is
// possible.
func (o operation) step() (s claim, is bool) {
	steps := [...]func(operation) (claim, bool){
		api.OpInput: operation.same,
		api.OpState: operation.same,
		api.OpConst: operation.constant,
		api.OpNeg:   operation.negative,
		api.OpAbs:   operation.absolute,
		api.OpSqrt:  operation.root,
		api.OpCast:  operation.same,
		api.OpAdd:   operation.sum,
		api.OpSub:   operation.difference,
		api.OpMul:   operation.product,
		api.OpDiv:   operation.quotient,
		api.OpMin:   operation.lesser,
		api.OpMax:   operation.greater,
		api.OpFma:   operation.productAndSum,
		api.OpSel:   operation.choice,
	}
	return steps[o.op](o)
}

func (o operation) same() (claim, bool) { return o.in[0], true }

// constant is possible if it does not overflow: in some modes it has a value then, but
// this may be as far away as any.
func (o operation) constant() (claim, bool) {
	x := o.in[0].lo
	w, flags, _ := floats.Round(o.format, o.mode, x)
	if flags&api.FlOver != 0 {
		return claim{}, false
	}
	rounded, _ := floats.Value(o.format, w)
	return claim{only(x), x.Sub(rounded).Abs()}, true
}

func (o operation) negative() (claim, bool) { return claim{o.in[0].neg(), o.in[0].err}, true }

func (o operation) absolute() (claim, bool) { return claim{o.in[0].abs(), o.in[0].err}, true }

func (o operation) root() (claim, bool) {
	a := o.in[0]
	r, is := a.sqrt()
	if !is {
		return claim{}, false
	}
	floating, is := a.floating().sqrt()
	if !is {
		return claim{}, false
	}
	err, _ := a.err.RootUp(api.PfBits)
	// Both roots differ by the difference of the numbers, divided by the sum of the
	// roots.
	if byQuotient, e := a.err.Quo(r.lo.Add(floating.lo)); e == api.OK {
		err = err.Min(byQuotient)
	}
	return claim{r, err}, true
}

func (o operation) sum() (claim, bool) {
	a, b := o.in[0], o.in[1]
	return claim{a.add(b.interval), a.err.Add(b.err)}, true
}

func (o operation) difference() (claim, bool) {
	a, b := o.in[0], o.in[1]
	return claim{a.sub(b.interval), a.err.Add(b.err)}, true
}

func (o operation) product() (claim, bool) {
	a, b := o.in[0], o.in[1]
	return claim{a.mul(b.interval), crossed(a, b).Add(a.err.Mul(b.err))}, true
}

// crossed returns the size of each one times the error of the other one.
func crossed(a, b claim) exact.Num { return a.size().Mul(b.err).Add(b.size().Mul(a.err)) }

func (o operation) quotient() (claim, bool) {
	a, b := o.in[0], o.in[1]
	q, is := a.quo(b.interval)
	if !is {
		return claim{}, false
	}
	err, e := crossed(a, b).Quo(b.near().Mul(b.floating().near()))
	if e != api.OK { // a floating-point divisor may be 0
		return claim{}, false
	}
	return claim{q, err}, true
}

func (o operation) lesser() (claim, bool) {
	a, b := o.in[0], o.in[1]
	return claim{interval{a.lo.Min(b.lo), a.hi.Min(b.hi)}, a.err.Max(b.err)}, true
}

func (o operation) greater() (claim, bool) {
	a, b := o.in[0], o.in[1]
	return claim{interval{a.lo.Max(b.lo), a.hi.Max(b.hi)}, a.err.Max(b.err)}, true
}

func (o operation) productAndSum() (claim, bool) {
	m, _ := o.product()
	c := o.in[2]
	return claim{m.add(c.interval), m.err.Add(c.err)}, true
}

func (o operation) choice() (claim, bool) {
	a, b, c, d := o.in[0], o.in[1], o.in[2], o.in[3]
	switch {
	case a.hi.Cmp(b.lo) <= 0 && a.floating().hi.Cmp(b.floating().lo) <= 0:
		return c, true
	case a.lo.Cmp(b.hi) > 0 && a.floating().lo.Cmp(b.floating().hi) > 0:
		return d, true
	}
	// Both runs may take the same operand, or one of them the other one.
	err := c.err.Max(d.err).Max(farthest(c.floating(), d.interval)).Max(farthest(d.floating(), c.interval))
	return claim{c.join(d.interval), err}, true
}

// farthest returns how far numbers of two intervals are from one another at most.
func farthest(a, b interval) exact.Num { return a.hi.Sub(b.lo).Max(b.hi.Sub(a.lo)) }
