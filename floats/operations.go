package floats

import (
	"vernier/api"
	"vernier/exact"
)

// operation is an operation of a machine for operands none of which is a NaN.
type operation func(m machine, in []operand) (api.Word, int)

// operate does an operation with words.
func operate(f api.Format, mode int, op operation, words ...api.Word) (api.Word, int, api.Errno) {
	m, e := newMachine(f, mode)
	if e != api.OK {
		return api.Word{}, 0, e
	}
	in, e := m.operands(words...)
	if e != api.OK {
		return api.Word{}, 0, e
	}
	w, flags := m.apply(op, in)
	return w, flags, api.OK
}

// apply does an operation with operands of any kind.
func (m machine) apply(op operation, in []operand) (api.Word, int) {
	nan, invalid := false, false
	for _, x := range in {
		nan = nan || x.isNaN()
		invalid = invalid || x.kind == api.FlSignal
	}
	if !nan {
		return op(m, in)
	}
	// Of three operands two are multiplied, whatever is added.
	invalid = invalid || len(in) == 3 && zeroByInfinity(in[0], in[1])
	if invalid {
		return m.invalid()
	}
	return m.quiet(), 0
}

// invalid returns the result of an invalid operation.
func (m machine) invalid() (api.Word, int) { return m.quiet(), api.FlInvalid }

// result returns the word of an exact result that is no NaN.
func (m machine) result(x operand) (api.Word, int) {
	switch x.kind {
	case api.FlZero:
		return m.signed(x.neg, api.Word{}), 0
	case api.FlInf:
		return m.signed(x.neg, m.infinity()), 0
	}
	return m.round(x.num)
}

func (m machine) add(in []operand) (api.Word, int) {
	a, b := in[0], in[1]
	switch {
	case a.kind == api.FlInf && b.kind == api.FlInf && a.neg != b.neg:
		return m.invalid()
	case a.kind == api.FlInf:
		return m.result(a)
	case b.kind == api.FlInf:
		return m.result(b)
	}
	sum := a.num.Add(b.num)
	if sum.Sign() != 0 {
		return m.round(sum)
	}
	neg := m.mode == api.RnDown
	if a.neg == b.neg { // then both are zeros: what cancels has different signs
		neg = a.neg
	}
	return m.result(operand{kind: api.FlZero, neg: neg})
}

func (m machine) sub(in []operand) (api.Word, int) {
	return m.add([]operand{in[0], in[1].opposite()})
}

func zeroByInfinity(a, b operand) bool {
	return a.kind == api.FlZero && b.kind == api.FlInf || a.kind == api.FlInf && b.kind == api.FlZero
}

// product returns the product of two operands that are not 0 and an infinity.
func product(a, b operand) operand {
	neg := a.neg != b.neg
	switch {
	case a.kind == api.FlInf || b.kind == api.FlInf:
		return operand{kind: api.FlInf, neg: neg}
	case a.kind == api.FlZero || b.kind == api.FlZero:
		return operand{kind: api.FlZero, neg: neg}
	}
	return operand{api.FlFinite, neg, a.num.Mul(b.num)}
}

func (m machine) mul(in []operand) (api.Word, int) {
	if zeroByInfinity(in[0], in[1]) {
		return m.invalid()
	}
	return m.result(product(in[0], in[1]))
}

func (m machine) div(in []operand) (api.Word, int) {
	a, b := in[0], in[1]
	neg := a.neg != b.neg
	switch {
	case a.kind == b.kind && a.kind != api.FlFinite:
		return m.invalid()
	case a.kind == api.FlInf:
		return m.signed(neg, m.infinity()), 0
	case b.kind == api.FlZero:
		return m.signed(neg, m.infinity()), api.FlDivide
	case a.kind == api.FlZero || b.kind == api.FlInf:
		return m.signed(neg, api.Word{}), 0
	}
	quotient, _ := a.num.Quo(b.num)
	return m.round(quotient)
}

func (m machine) rem(in []operand) (api.Word, int) {
	a, b := in[0], in[1]
	switch {
	case a.kind == api.FlInf || b.kind == api.FlZero:
		return m.invalid()
	case b.kind == api.FlInf:
		return m.result(a)
	}
	quotient, _ := a.num.Quo(b.num)
	rest := a.num.Sub(b.num.Mul(nearest(quotient)))
	if rest.Sign() == 0 {
		return m.signed(a.neg, api.Word{}), 0
	}
	return m.round(rest)
}

// nearest returns the integer nearest to x, of two the even one.
func nearest(x exact.Num) exact.Num {
	above := x.Add(power(-1))
	n := above.Floor()
	odd := n.Sign() != 0 && n.Twos() == 0
	if odd && above.IsInt() {
		return n.Sub(exact.Int(1))
	}
	return n
}

func (m machine) sqrt(in []operand) (api.Word, int) {
	a := in[0]
	switch {
	case a.kind == api.FlZero:
		return m.result(a)
	case a.neg:
		return m.invalid()
	case a.kind == api.FlInf:
		return m.result(a)
	}
	return m.round(m.rootAlike(a.num))
}

func (m machine) fma(in []operand) (api.Word, int) {
	if zeroByInfinity(in[0], in[1]) {
		return m.invalid()
	}
	return m.add([]operand{product(in[0], in[1]), in[2]})
}

func (m machine) cast(in []operand) (api.Word, int) { return m.result(in[0]) }

// Add adds.
func Add(f api.Format, mode int, a, b api.Word) (w api.Word, flags int, e api.Errno) {
	return operate(f, mode, machine.add, a, b)
}

// Sub subtracts.
func Sub(f api.Format, mode int, a, b api.Word) (w api.Word, flags int, e api.Errno) {
	return operate(f, mode, machine.sub, a, b)
}

// Mul multiplies.
func Mul(f api.Format, mode int, a, b api.Word) (w api.Word, flags int, e api.Errno) {
	return operate(f, mode, machine.mul, a, b)
}

// Div divides.
func Div(f api.Format, mode int, a, b api.Word) (w api.Word, flags int, e api.Errno) {
	return operate(f, mode, machine.div, a, b)
}

// Rem returns the remainder.
func Rem(f api.Format, a, b api.Word) (w api.Word, flags int, e api.Errno) {
	return operate(f, api.RnEven, machine.rem, a, b)
}

// Sqrt returns the square root.
func Sqrt(f api.Format, mode int, a api.Word) (w api.Word, flags int, e api.Errno) {
	return operate(f, mode, machine.sqrt, a)
}

// Fma multiplies and adds.
func Fma(f api.Format, mode int, a, b, c api.Word) (w api.Word, flags int, e api.Errno) {
	return operate(f, mode, machine.fma, a, b, c)
}

// Cast converts to another format.
func Cast(from, to api.Format, mode int, a api.Word) (w api.Word, flags int, e api.Errno) {
	source, e := newMachine(from, mode)
	if e != api.OK {
		return api.Word{}, 0, e
	}
	target, e := newMachine(to, mode)
	if e != api.OK {
		return api.Word{}, 0, e
	}
	in, e := source.operands(a)
	if e != api.OK {
		return api.Word{}, 0, e
	}
	w, flags = target.apply(machine.cast, in)
	return w, flags, api.OK
}
