package proofs

import (
	"vernier/api"
	"vernier/exact"
	"vernier/lang"
)

// mostBits is how many bits a numerator or a denominator has at most in a form or a
// polynomial. The text of a number with more of them has more bytes than a result may
// have; and squares of squares would soon have exponents of 2 that fit into no integer.
const mostBits = 1 << 33

func isHuge(x exact.Num) bool {
	top, bottom := x.Parts()
	a, _ := top.Log() // 0 for 0
	b, _ := bottom.Log()
	return max(a, b) >= mostBits
}

// form is what there is of a smooth node over a box: its value in the middle of the box,
// and its derivative by each input. If a divisor may be 0, or a root is of a number
// below 0, it does not exist.
type form struct {
	middle interval
	slopes []interval
	exists bool
}

// isSmooth reports whether an operation may be one of a smooth node.
func isSmooth(op int) bool {
	switch op {
	case api.OpInput, api.OpConst, api.OpNeg, api.OpCast, api.OpAdd, api.OpSub:
		return true
	case api.OpMul, api.OpFma, api.OpDiv, api.OpSqrt:
		return true
	}
	return false
}

// mean returns the mean value form of a node.
func (l *leaf) mean(node int) (interval, api.Errno) {
	if !l.isMadeBy(node, isSmooth) {
		return interval{}, ErrRule
	}
	for _, i := range l.under(node) {
		if _, e := l.claimOf(i); i != node && e != api.OK {
			return interval{}, ErrClaim
		}
	}
	f := l.formOf(node)
	if !f.exists {
		return interval{}, ErrRule
	}
	var extends exact.Num
	for i, slope := range f.slopes {
		extends = extends.Add(slope.size().Mul(l.over[i].halfWidth()))
	}
	return f.middle.widen(extends), api.OK
}

// formOf returns the form of a smooth node.
func (l *leaf) formOf(node int) *form {
	if l.forms[node] == nil {
		l.forms[node] = l.makeForm(node)
	}
	return l.forms[node]
}

func (l *leaf) makeForm(node int) *form {
	n := l.Nodes[node]
	f := &form{slopes: make([]interval, len(l.over)), exists: true}
	switch n.Op {
	case api.OpInput:
		f.middle = only(l.over[n.A].middle())
		f.slopes[n.A] = only(exact.Int(1))
		return f
	case api.OpConst:
		f.middle = only(l.number(node))
		return f
	}
	o := operation{op: n.Op}
	var of [3]interval // what is claimed of the operands
	var forms [3]*form
	for i, k := range lang.Kids(n) {
		forms[i] = l.formOf(k)
		if !forms[i].exists {
			return &form{}
		}
		c, _ := l.claimOf(k)
		of[i], o.in[i].interval = c.interval, forms[i].middle
	}
	// In the middle nothing is rounded: the step is that of claims without errors.
	s, is := o.step()
	if !is || isHuge(s.lo) || isHuge(s.hi) {
		return &form{}
	}
	f.middle = s.interval
	for input := range f.slopes {
		var by [3]interval
		for i := range lang.Kids(n) {
			by[i] = forms[i].slopes[input]
		}
		if f.slopes[input], is = slope(n.Op, of, by); !is {
			return &form{}
		}
	}
	return f
}

// slope returns the derivative of a node, by the ranges of its operands and by their
// derivatives, if it exists.
func slope(op int, of, by [3]interval) (d interval, is bool) {
	a, b := of[0], of[1]
	switch op {
	case api.OpNeg:
		return by[0].neg(), true
	case api.OpAdd:
		return by[0].add(by[1]), true
	case api.OpSub:
		return by[0].sub(by[1]), true
	case api.OpMul:
		return a.mul(by[1]).add(b.mul(by[0])), true
	case api.OpFma:
		return a.mul(by[1]).add(b.mul(by[0])).add(by[2]), true
	case api.OpDiv:
		return b.mul(by[0]).sub(a.mul(by[1])).quo(b.mul(b))
	case api.OpSqrt:
		r, is := a.sqrt()
		if !is {
			return interval{}, false
		}
		return by[0].quo(r.add(r))
	}
	return by[0], true
}
