package ranges_test

import (
	"math/big"
	"slices"

	"vernier/api"
)

// This file has a second making of ranges, affine forms, derivatives and pieces, in
// the numbers of math/big.

func toRat(text api.Rat) *big.Rat {
	x, ok := new(big.Rat).SetString(string(text))
	if !ok {
		panic("no number: " + string(text))
	}
	return x
}

func toText(x *big.Rat) string { return x.RatString() }

func rat(a, b int64) *big.Rat { return big.NewRat(a, b) }

func sum(l ...*big.Rat) *big.Rat {
	out := new(big.Rat)
	for _, x := range l {
		out.Add(out, x)
	}
	return out
}

func product(l ...*big.Rat) *big.Rat {
	out := rat(1, 1)
	for _, x := range l {
		out.Mul(out, x)
	}
	return out
}

func less(x, y *big.Rat) *big.Rat     { return new(big.Rat).Sub(x, y) }
func quotient(x, y *big.Rat) *big.Rat { return new(big.Rat).Quo(x, y) }
func minus(x *big.Rat) *big.Rat       { return new(big.Rat).Neg(x) }
func size(x *big.Rat) *big.Rat        { return new(big.Rat).Abs(x) }
func halfOf(x *big.Rat) *big.Rat      { return quotient(x, rat(2, 1)) }

func least(l ...*big.Rat) *big.Rat    { return slices.MinFunc(l, (*big.Rat).Cmp) }
func greatest(l ...*big.Rat) *big.Rat { return slices.MaxFunc(l, (*big.Rat).Cmp) }

func isLongModel(l ...*big.Rat) bool {
	return slices.ContainsFunc(l, func(x *big.Rat) bool {
		if max(x.Num().BitLen(), x.Denom().BitLen()) < 6600 { // 2^6600 has 1987 digits
			return false
		}
		return max(len(size(x).Num().String()), len(x.Denom().String())) > 2000
	})
}

func twoTo(k int) *big.Rat {
	x := new(big.Rat).SetInt(new(big.Int).Lsh(big.NewInt(1), uint(max(k, -k))))
	if k < 0 {
		x.Inv(x)
	}
	return x
}

// logOf returns the logarithm of the size of a number that is not 0, rounded down.
func logOf(x *big.Rat) int {
	k := x.Num().BitLen() - x.Denom().BitLen()
	if size(x).Cmp(twoTo(k)) < 0 {
		k--
	}
	return k
}

func floorOf(x *big.Rat) *big.Int {
	return new(big.Int).Div(x.Num(), x.Denom()) // Euclid's division: the rest is not below 0
}

// downTo rounds to some bits, upTo likewise.
func downTo(x *big.Rat, bits int) *big.Rat {
	if x.Sign() == 0 {
		return x
	}
	step := twoTo(logOf(x) - bits + 1)
	return product(new(big.Rat).SetInt(floorOf(quotient(x, step))), step)
}

func upTo(x *big.Rat, bits int) *big.Rat { return minus(downTo(minus(x), bits)) }

// rootDownTo rounds the root of a number to some bits, rootUpTo likewise.
func rootDownTo(x *big.Rat, bits int) *big.Rat {
	if x.Sign() == 0 {
		return x
	}
	k := logOf(x)
	if k%2 != 0 {
		k--
	}
	step := twoTo(k/2 - bits + 1)
	n := new(big.Int).Sqrt(floorOf(quotient(x, product(step, step))))
	return product(new(big.Rat).SetInt(n), step)
}

func rootUpTo(x *big.Rat, bits int) *big.Rat {
	y := rootDownTo(x, bits)
	if product(y, y).Cmp(x) == 0 {
		return y
	}
	return sum(y, twoTo(logOf(y)-bits+1))
}

// span is an interval.
type span struct{ lo, hi *big.Rat }

func toSpans(box []api.Span) []span {
	var out []span
	for _, s := range box {
		out = append(out, span{toRat(s.Lo), toRat(s.Hi)})
	}
	return out
}

func (a span) text() string { return toText(a.lo) + " " + toText(a.hi) }

func (a span) mid() *big.Rat { return halfOf(sum(a.lo, a.hi)) }

func (a span) halfWidth() *big.Rat { return halfOf(less(a.hi, a.lo)) }

func (a span) has(x *big.Rat) bool { return a.lo.Cmp(x) <= 0 && a.hi.Cmp(x) >= 0 }

func (a span) contains(b span) bool { return a.has(b.lo) && a.has(b.hi) }

func (a span) most() *big.Rat { return greatest(size(a.lo), size(a.hi)) }

func (a span) plus(b span) span { return span{sum(a.lo, b.lo), sum(a.hi, b.hi)} }

func (a span) negative() span { return span{minus(a.hi), minus(a.lo)} }

func (a span) out(bits int) span { return span{downTo(a.lo, bits), upTo(a.hi, bits)} }

// corners returns the least interval with what an operation makes of the ends.
func corners(a, b span, of func(x, y *big.Rat) *big.Rat) span {
	all := []*big.Rat{of(a.lo, b.lo), of(a.lo, b.hi), of(a.hi, b.lo), of(a.hi, b.hi)}
	return span{least(all...), greatest(all...)}
}

func (a span) by(b span) span {
	return corners(a, b, func(x, y *big.Rat) *big.Rat { return product(x, y) })
}

func (a span) over(b span) span { return corners(a, b, quotient) }

func (a span) sizes() span {
	if a.has(new(big.Rat)) {
		return span{new(big.Rat), a.most()}
	}
	return span{least(size(a.lo), size(a.hi)), a.most()}
}

func (a span) join(b span) span { return span{least(a.lo, b.lo), greatest(a.hi, b.hi)} }

func (a span) meet(b span) span { return span{greatest(a.lo, b.lo), least(a.hi, b.hi)} }

// operandsOf returns the operands of a node.
func operandsOf(n api.Node) []int {
	counts := map[int]int{
		api.OpNeg: 1, api.OpAbs: 1, api.OpSqrt: 1, api.OpCast: 1,
		api.OpAdd: 2, api.OpSub: 2, api.OpMul: 2, api.OpDiv: 2, api.OpMin: 2, api.OpMax: 2,
		api.OpFma: 3, api.OpSel: 4,
	}
	return []int{n.A, n.B, n.C, n.D}[:counts[n.Op]]
}

// dependsOn returns the nodes on which a node depends, in their order.
func dependsOn(p api.Prog, node int) []int {
	out := []int{node}
	for _, k := range operandsOf(p.Nodes[node]) {
		out = append(out, dependsOn(p, k)...)
	}
	slices.Sort(out)
	return slices.Compact(out)
}

// model has what is to be expected of a node over a box.
type model struct {
	p    api.Prog
	node int
	bits int
	deps []int
}

func newModel(p api.Prog, node int) *model { return &model{p, node, 96, dependsOn(p, node)} }

// rangesOf returns the ranges of all nodes on which the node depends.
func (m *model) rangesOf(box []span) (map[int]span, api.Errno) {
	out := map[int]span{}
	for _, i := range m.deps {
		n := m.p.Nodes[i]
		var in []span
		for _, k := range operandsOf(n) {
			in = append(in, out[k])
		}
		var x span
		switch n.Op {
		case api.OpInput:
			x = box[n.A]
		case api.OpConst:
			x = span{toRat(n.Value), toRat(n.Value)}
		case api.OpState:
			return nil, 160
		case api.OpDiv:
			if in[1].has(new(big.Rat)) {
				return nil, api.ErrZero
			}
			x = in[0].over(in[1]).out(m.bits)
		case api.OpSqrt:
			if in[0].lo.Sign() < 0 {
				return nil, api.ErrDomain
			}
			x = span{rootDownTo(in[0].lo, m.bits), rootUpTo(in[0].hi, m.bits)}
		default:
			x = operateModel(n.Op, in).out(m.bits)
		}
		if isLongModel(x.lo, x.hi) {
			return nil, api.ErrLong
		}
		out[i] = x
	}
	return out, api.OK
}

func operateModel(op int, in []span) span {
	switch op {
	case api.OpNeg:
		return in[0].negative()
	case api.OpAbs:
		return in[0].sizes()
	case api.OpAdd:
		return in[0].plus(in[1])
	case api.OpSub:
		return in[0].plus(in[1].negative())
	case api.OpMul:
		return in[0].by(in[1])
	case api.OpMin:
		return span{least(in[0].lo, in[1].lo), least(in[0].hi, in[1].hi)}
	case api.OpMax:
		return span{greatest(in[0].lo, in[1].lo), greatest(in[0].hi, in[1].hi)}
	case api.OpFma:
		return in[0].by(in[1]).plus(in[2])
	case api.OpSel:
		if in[0].hi.Cmp(in[1].lo) <= 0 {
			return in[2]
		}
		if in[0].lo.Cmp(in[1].hi) > 0 {
			return in[3]
		}
		return in[2].join(in[3])
	}
	return in[0]
}

func (m *model) rangeOf(box []span) (span, api.Errno) {
	all, e := m.rangesOf(box)
	return all[m.node], e
}

func (m *model) smooth() bool {
	return !slices.ContainsFunc(m.deps, func(i int) bool {
		return slices.Contains([]int{api.OpState, api.OpAbs, api.OpMin, api.OpMax, api.OpSel}, m.p.Nodes[i].Op)
	})
}

// slopeOf returns the range of the derivative by an input, without the errors that
// come before.
func (m *model) slopeOf(values map[int]span, input int) (span, api.Errno) {
	out := map[int]span{}
	for _, i := range m.deps {
		n := m.p.Nodes[i]
		zero := span{new(big.Rat), new(big.Rat)}
		a, b, da, db, dc := values[n.A], values[n.B], out[n.A], out[n.B], out[n.C]
		x := zero
		switch n.Op {
		case api.OpInput:
			if n.A == input {
				x = span{rat(1, 1), rat(1, 1)}
			}
		case api.OpNeg:
			x = da.negative()
		case api.OpCast:
			x = da
		case api.OpAdd:
			x = da.plus(db)
		case api.OpSub:
			x = da.plus(db.negative())
		case api.OpMul:
			x = a.by(db).plus(b.by(da))
		case api.OpFma:
			x = a.by(db).plus(b.by(da)).plus(dc)
		case api.OpDiv:
			if b.by(b).has(new(big.Rat)) {
				return zero, api.ErrZero
			}
			x = b.by(da).plus(a.by(db).negative()).over(b.by(b))
		case api.OpSqrt:
			two := values[i].plus(values[i])
			if two.has(new(big.Rat)) {
				return zero, api.ErrZero
			}
			x = da.over(two)
		}
		if n.Op >= api.OpNeg {
			x = x.out(m.bits)
		}
		if isLongModel(x.lo, x.hi) {
			return zero, api.ErrLong
		}
		out[i] = x
	}
	return out[m.node], api.OK
}

func (m *model) slopesOf(box []span) ([]span, api.Errno) {
	if !m.smooth() {
		return nil, 161
	}
	values, e := m.rangesOf(box)
	if e != api.OK {
		return nil, e
	}
	var out []span
	for i := range box {
		d, e := m.slopeOf(values, i)
		if e != api.OK {
			return nil, e
		}
		out = append(out, d)
	}
	return out, api.OK
}

func (m *model) meanOf(box []span) (span, api.Errno) {
	slopes, e := m.slopesOf(box)
	if e != api.OK {
		return span{}, e
	}
	var middles []span
	extends := new(big.Rat)
	for i, a := range box {
		middles = append(middles, span{a.mid(), a.mid()})
		extends = sum(extends, product(a.halfWidth(), slopes[i].most()))
	}
	x, e := m.rangeOf(middles)
	if e != api.OK {
		return span{}, e
	}
	x = x.plus(span{minus(extends), extends}).out(m.bits)
	if isLongModel(x.lo, x.hi) {
		return span{}, api.ErrLong
	}
	return x, api.OK
}

func (m *model) monotoneOf(box []span) (span, api.Errno) {
	slopes, e := m.slopesOf(box)
	if e != api.OK {
		return span{}, e
	}
	ends := [2]span{}
	for side := range 2 {
		var at []span
		for i, a := range box {
			low, high := span{a.lo, a.lo}, span{a.hi, a.hi}
			rising := slopes[i].lo.Sign() >= 0
			falling := !rising && slopes[i].hi.Sign() <= 0
			switch {
			case rising && side == 0, falling && side == 1:
				at = append(at, low)
			case rising || falling:
				at = append(at, high)
			default:
				at = append(at, a)
			}
		}
		if ends[side], e = m.rangeOf(at); e != api.OK {
			return span{}, e
		}
	}
	return span{ends[0].lo, ends[1].hi}, api.OK
}

func (m *model) bestOf(box []span) (span, api.Errno) {
	x, fault := m.rangeOf(box)
	all := []span{}
	if fault == api.OK {
		all = append(all, x)
	}
	if f, e := m.formOf(box); e == api.OK {
		all = append(all, f.span())
	}
	if x, e := m.meanOf(box); e == api.OK {
		all = append(all, x)
	}
	if x, e := m.monotoneOf(box); e == api.OK {
		all = append(all, x)
	}
	if len(all) == 0 {
		return span{}, fault
	}
	for _, x := range all {
		all[0] = all[0].meet(x)
	}
	return all[0], api.OK
}

// pieceModel is a piece, with its range or its error.
type pieceModel struct {
	box    []span
	values span
	fault  api.Errno
}

func (m *model) boundOf(box []span, splits int) (span, int, api.Errno) {
	x, e := m.bestOf(box)
	pieces := []pieceModel{{box, x, e}}
	for turn := 1; turn <= splits; turn++ {
		at := slices.IndexFunc(pieces, func(x pieceModel) bool { return x.fault != api.OK })
		if at < 0 {
			at = 0
			for i, x := range pieces {
				if turn%2 == 1 && x.values.lo.Cmp(pieces[at].values.lo) < 0 || turn%2 == 0 && x.values.hi.Cmp(pieces[at].values.hi) > 0 {
					at = i
				}
			}
		}
		whole, input := pieces[at], -1
		for i, a := range whole.box {
			if a.halfWidth().Sign() > 0 && (input < 0 || a.halfWidth().Cmp(whole.box[input].halfWidth()) > 0) {
				input = i
			}
		}
		if input < 0 {
			break
		}
		var parts []pieceModel
		middle := whole.box[input].mid()
		for _, a := range []span{{whole.box[input].lo, middle}, {middle, whole.box[input].hi}} {
			part := slices.Clone(whole.box)
			part[input] = a
			x, e := m.bestOf(part)
			switch {
			case whole.fault == api.OK && e == api.OK:
				x = x.meet(whole.values)
			case whole.fault == api.OK:
				x, e = whole.values, api.OK
			}
			parts = append(parts, pieceModel{part, x, e})
		}
		pieces = slices.Replace(pieces, at, at+1, parts...)
	}
	bound := pieces[0].values
	for _, x := range pieces {
		if x.fault != api.OK {
			return span{}, 0, x.fault
		}
		bound = bound.join(x.values)
	}
	return bound, len(pieces), api.OK
}
