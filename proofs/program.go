package proofs

import (
	"vernier/api"
	"vernier/exact"
	"vernier/lang"
)

// program is a valid program, and what is known of its nodes whatever the box is.
type program struct {
	api.Prog
	needsNode, needsState []bool
	polynomials           []*formed // those that have been asked for
}

func readProgram(p api.Prog) (*program, api.Errno) {
	nodes, states, e := lang.Needs(p)
	if e != api.OK {
		return nil, e
	}
	return &program{p, nodes, states, make([]*formed, len(p.Nodes))}, api.OK
}

func (p *program) hasNode(node int) bool { return 0 <= node && node < len(p.Nodes) }

func (p *program) hasInput(input int) bool { return 0 <= input && input < len(p.Inputs) }

func (p *program) format(node int) api.Format { return p.Formats[p.Nodes[node].Format] }

// number returns the number of a node OpConst.
func (p *program) number(node int) exact.Num {
	x, _ := exact.Parse(p.Nodes[node].Value)
	return x
}

// box returns the box of the program.
func (p *program) box() []interval {
	out := make([]interval, len(p.Inputs))
	for i, in := range p.Inputs {
		out[i].lo, _ = exact.Parse(in.Lo)
		out[i].hi, _ = exact.Parse(in.Hi)
	}
	return out
}

// readBox returns the intervals of a box for the program. The texts of all spans are
// looked at before the order of the ends of any.
func (p *program) readBox(box []api.Span) ([]interval, api.Errno) {
	if len(box) != len(p.Inputs) {
		return nil, api.ErrArg
	}
	out := make([]interval, len(box))
	for i, s := range box {
		ends, e := readNumbers(s.Lo, s.Hi)
		if e != api.OK {
			return nil, e
		}
		out[i] = interval{ends[0], ends[1]}
	}
	for _, a := range out {
		if a.lo.Cmp(a.hi) > 0 {
			return nil, api.ErrRange
		}
	}
	return out, api.OK
}

// under returns the nodes on which a node depends, itself the last one, in their
// order.
func (p *program) under(node int) []int {
	depends := make([]bool, node+1)
	depends[node] = true
	for i := node; i >= 0; i-- { // operands come before the nodes that have them
		if depends[i] {
			for _, k := range lang.Kids(p.Nodes[i]) {
				depends[k] = true
			}
		}
	}
	var out []int
	for i, is := range depends {
		if is {
			out = append(out, i)
		}
	}
	return out
}

// isMadeBy reports whether a node, and all nodes on which it depends, are of kinds
// that have something.
func (p *program) isMadeBy(node int, has func(op int) bool) bool {
	for _, i := range p.under(node) {
		if !has(p.Nodes[i].Op) {
			return false
		}
	}
	return true
}
