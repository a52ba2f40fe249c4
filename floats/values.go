package floats

import (
	"vernier/api"
	"vernier/exact"
)

// operand is what a word stands for: num is the number with its sign, the
// payload of a NaN, and 0 otherwise.
type operand struct {
	kind int
	neg  bool
	num  exact.Num
}

func (x operand) isNaN() bool { return x.kind == api.FlQuiet || x.kind == api.FlSignal }

// opposite returns an operand that is no NaN with the other sign bit.
func (x operand) opposite() operand { return operand{x.kind, !x.neg, x.num.Neg()} }

// The words of a machine, without their signs, are in the order of the values
// that they stand for; infinity follows the greatest value, and NaN follow it.

// infinity returns the word of plus infinity.
func (m machine) infinity() api.Word {
	return minus(bit(m.E+m.P-1), bit(m.P-1))
}

// quiet returns the word of the quiet NaN with the payload 0.
func (m machine) quiet() api.Word { return plus(m.infinity(), bit(m.P-2)) }

// signed returns the word with a sign and the other bits.
func (m machine) signed(neg bool, size api.Word) api.Word {
	if neg {
		return plus(size, bit(m.E+m.P-1))
	}
	return size
}

// unsigned returns the sign of a word and its other bits.
func (m machine) unsigned(w api.Word) (neg bool, size api.Word) {
	sign := bit(m.E + m.P - 1)
	if less(w, sign) {
		return false, w
	}
	return true, minus(w, sign)
}

// decode returns what a word of the format stands for.
func (m machine) decode(w api.Word) operand {
	neg, size := m.unsigned(w)
	infinity, quiet := m.infinity(), m.quiet()
	switch {
	case size == api.Word{}:
		return operand{kind: api.FlZero, neg: neg}
	case size == infinity:
		return operand{kind: api.FlInf, neg: neg}
	case less(size, infinity):
		return operand{api.FlFinite, neg, m.finite(neg, size)}
	case less(size, quiet):
		return operand{api.FlSignal, neg, toNum(minus(size, infinity))}
	}
	return operand{api.FlQuiet, neg, toNum(minus(size, quiet))}
}

// finite returns the number of a word below infinity.
func (m machine) finite(neg bool, size api.Word) exact.Num {
	digits := size
	field := int(right(size, m.P-1).Lo)
	if field > 0 { // the field's lowest bit takes the place of the bit that is not written
		digits = minus(size, left(api.Word{Lo: uint64(field - 1)}, m.P-1))
	}
	x := shifted(toNum(digits), m.finest()+max(field-1, 0))
	if neg {
		return x.Neg()
	}
	return x
}

// operands returns what words stand for, or ErrForm for one of another format.
func (m machine) operands(words ...api.Word) ([]operand, api.Errno) {
	out := make([]operand, len(words))
	for i, w := range words {
		if (right(w, m.E+m.P) != api.Word{}) {
			return nil, api.ErrForm
		}
		out[i] = m.decode(w)
	}
	return out, api.OK
}

// read returns what one word of a format stands for.
func read(f api.Format, w api.Word) (operand, api.Errno) {
	m, e := plainMachine(f)
	if e != api.OK {
		return operand{}, e
	}
	in, e := m.operands(w)
	if e != api.OK {
		return operand{}, e
	}
	return in[0], api.OK
}

// Decode returns what a word stands for.
func Decode(f api.Format, w api.Word) (api.FlVal, api.Errno) {
	x, e := read(f, w)
	if e != api.OK {
		return api.FlVal{}, e
	}
	return api.FlVal{Kind: x.kind, Neg: x.neg, Val: x.num.Text()}, api.OK
}

// Encode returns the word of a value.
func Encode(f api.Format, v api.FlVal) (api.Word, api.Errno) {
	m, e := plainMachine(f)
	if e != api.OK {
		return api.Word{}, e
	}
	x, e := exact.Parse(v.Val)
	if e != api.OK {
		return api.Word{}, api.ErrForm
	}
	size, is := m.encode(operand{v.Kind, v.Neg, x})
	if !is {
		return api.Word{}, api.ErrForm
	}
	return m.signed(v.Neg, size), api.OK
}

// encode returns the word of an operand, without its sign, if there is one.
func (m machine) encode(x operand) (size api.Word, is bool) {
	switch x.kind {
	case api.FlZero:
		return api.Word{}, x.num.Sign() == 0
	case api.FlInf:
		return m.infinity(), x.num.Sign() == 0
	case api.FlFinite:
		w, flags := m.round(x.num)
		_, size := m.unsigned(w)
		return size, flags == 0 && x.num.Sign() != 0 && x.neg == (x.num.Sign() < 0)
	case api.FlQuiet:
		return m.payload(m.quiet(), x.num)
	case api.FlSignal:
		size, is := m.payload(m.infinity(), x.num)
		return size, is && x.num.Sign() != 0
	}
	return api.Word{}, false
}

// payload returns the word of a NaN, if it has such a payload.
func (m machine) payload(base api.Word, x exact.Num) (size api.Word, is bool) {
	if !x.IsInt() || x.Sign() < 0 || x.Cmp(power(m.P-2)) >= 0 {
		return api.Word{}, false
	}
	return plus(base, toWord(x)), true
}

// Value returns the number of a word.
func Value(f api.Format, w api.Word) (exact.Num, api.Errno) {
	x, e := read(f, w)
	switch {
	case e != api.OK:
		return exact.Num{}, e
	case x.kind != api.FlFinite && x.kind != api.FlZero:
		return exact.Num{}, api.ErrNone
	}
	return x.num, api.OK
}

// Text returns a word as text.
func Text(f api.Format, w api.Word) (string, api.Errno) {
	x, e := read(f, w)
	if e != api.OK {
		return "", e
	}
	return x.text(), api.OK
}

func (x operand) text() string {
	switch x.kind {
	case api.FlQuiet:
		return "nan"
	case api.FlSignal:
		return "snan"
	case api.FlInf, api.FlZero:
		name := "0"
		if x.kind == api.FlInf {
			name = "inf"
		}
		if x.neg {
			return "-" + name
		}
		return name
	}
	return string(x.num.Text())
}
