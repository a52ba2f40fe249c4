package lang

import "vernier/api"

// made returns an expression that is made of parts.
func made(op int, text string, parts ...expression) expression {
	levels := 0
	for _, x := range parts {
		levels = max(levels, x.levels)
	}
	return expression{op, text, parts, levels + 1}
}

func (r *reader) expression() expression {
	if !r.take("if") {
		return r.sum()
	}
	a := r.sum()
	r.expect("<=")
	b := r.sum()
	r.expect("then")
	c := r.expression()
	r.expect("else")
	return made(api.OpSel, "", a, b, c, r.expression())
}

func (r *reader) sum() expression { return r.chain(r.term, api.OpAdd, api.OpSub) }

func (r *reader) term() expression { return r.chain(r.factor, api.OpMul, api.OpDiv) }

// chain reads parts with the signs of some operations between them, each of which
// has all that is before it as its first operand.
func (r *reader) chain(part func() expression, ops ...int) expression {
	x := part()
	for {
		op := r.takeSign(ops)
		if op == 0 {
			return x
		}
		x = made(op, "", x, part())
	}
}

// takeSign goes past the sign of one of some operations, and returns that one, or
// 0.
func (r *reader) takeSign(ops []int) int {
	for _, op := range ops {
		if r.take(operations[op].text) {
			return op
		}
	}
	return 0
}

// factor leaves the parser where it is already clear that there are too many
// levels, so that these are few also while a text is read.
func (r *reader) factor() expression {
	r.depth++
	r.need(r.depth <= api.MaxNest)
	defer func() { r.depth-- }()
	if r.take(operations[api.OpNeg].text) {
		return made(api.OpNeg, "", r.factor())
	}
	return r.atom()
}

func (r *reader) atom() expression {
	if r.take("(") {
		x := r.expression()
		r.expect(")")
		x.levels++
		return x
	}
	if t := r.next(); t.kind == isNumber || t.kind == isExact {
		return made(api.OpConst, r.goPast().text)
	}
	if op := calls(r.next().text); op != 0 {
		r.goPast()
		return r.call(op, "")
	}
	name := r.takeName()
	if r.next().text == "(" {
		return r.call(api.OpCast, name)
	}
	return made(0, name)
}

// call reads the operands of a call.
func (r *reader) call(op int, text string) expression {
	var parts []expression
	for i := range operations[op].nodes {
		if i == 0 {
			r.expect("(")
		} else {
			r.expect(",")
		}
		parts = append(parts, r.expression())
	}
	r.expect(")")
	return made(op, text, parts...)
}
