package lang

import (
	"vernier/api"
	"vernier/exact"
	"vernier/floats"
)

// checker has the checks of the parts of a program, each of which supposes that
// the parts before are right.
type checker struct{ api.Prog }

// Check returns the part, the place in it, and the error of a program.
func Check(p api.Prog) (part, at int, e api.Errno) {
	c := checker{p}
	parts := [...]struct {
		count int
		check func(at int) api.Errno
	}{
		{1, c.checkShape},
		{len(p.Formats), c.checkFormat},
		{len(p.Inputs), c.checkInput},
		{len(p.Nodes), c.checkNode},
		{len(p.States), c.checkState},
		{1, c.checkResult},
	}
	for part, x := range parts {
		for at := range x.count {
			if e := x.check(at); e != api.OK {
				return part, at, e
			}
		}
	}
	return 0, 0, api.OK
}

// rangeError returns ErrRange if something is not as it has to be.
func rangeError(is bool) api.Errno {
	if !is {
		return api.ErrRange
	}
	return api.OK
}

func (c checker) hasFormat(f int) bool { return 0 <= f && f < len(c.Formats) }

func (c checker) checkShape(int) api.Errno {
	count := len(c.Nodes)
	switch {
	case len(c.Formats) > api.MaxFormats || len(c.Inputs) > api.MaxInputs:
		return api.ErrLong
	case count > api.MaxNodes || len(c.States) > api.MaxStates:
		return api.ErrLong
	case len(c.Formats) == 0 || count == 0:
		return api.ErrArg
	case c.Mode < api.RnEven || c.Mode > api.RnDown:
		return api.ErrArg
	case c.Head < 0 || c.Head > c.Tail || c.Tail > count:
		return api.ErrArg
	case len(c.States) == 0 && c.Head != count:
		return api.ErrArg
	}
	return api.OK
}

func (c checker) checkFormat(at int) api.Errno { return floats.Check(c.Formats[at]) }

func (c checker) checkInput(at int) api.Errno {
	in := c.Inputs[at]
	if !c.hasFormat(in.Format) {
		return api.ErrRange
	}
	lo, e := exact.Parse(in.Lo)
	if e != api.OK {
		return e
	}
	hi, e := exact.Parse(in.Hi)
	if e != api.OK {
		return e
	}
	f := c.Formats[in.Format]
	return rangeError(floats.Has(f, lo) && floats.Has(f, hi) && lo.Cmp(hi) <= 0)
}

func (c checker) checkNode(at int) api.Errno {
	n := c.Nodes[at]
	switch {
	case !isOperation(n.Op) || !plainlyFilled(n):
		return api.ErrArg
	case !c.hasFormat(n.Format):
		return api.ErrRange
	}
	switch n.Op {
	case api.OpInput:
		return c.checkInputNode(n)
	case api.OpState:
		return rangeError(at >= c.Head && 0 <= n.A && n.A < len(c.States))
	case api.OpConst:
		return exact.Check(n.Value)
	}
	for _, k := range Kids(n) {
		if !sees(c.Prog, at, k) {
			return api.ErrRange
		}
	}
	return api.OK
}

// plainlyFilled reports whether all that a node does not use is zero.
func plainlyFilled(n api.Node) bool {
	used := api.Node{Op: n.Op, Format: n.Format}
	switch n.Op {
	case api.OpInput, api.OpState:
		used.A = n.A
	case api.OpConst:
		used.Value = n.Value
	}
	return n == withKids(used, Kids(n))
}

func (c checker) checkInputNode(n api.Node) api.Errno {
	switch {
	case n.A < 0 || n.A >= len(c.Inputs):
		return api.ErrRange
	case n.Format != c.Inputs[n.A].Format:
		return ErrFormat
	}
	return api.OK
}

func (c checker) checkState(at int) api.Errno {
	s := c.States[at]
	if s.Init < 0 || s.Init >= c.Head || s.Next < 0 || s.Next >= c.Tail {
		return api.ErrRange
	}
	format := c.Nodes[s.Init].Format
	if c.Nodes[s.Next].Format != format {
		return ErrFormat
	}
	for _, n := range c.Nodes {
		if n.Op == api.OpState && n.A == at && n.Format != format {
			return ErrFormat
		}
	}
	return api.OK
}

func (c checker) checkResult(int) api.Errno {
	r := c.Result
	return rangeError(0 <= r && r < len(c.Nodes) && section(c.Prog, r) != inBody)
}
