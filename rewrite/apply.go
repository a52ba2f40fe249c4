package rewrite

import (
	"iter"

	"vernier/api"
	"vernier/lang"
)

// after returns the program after a rule at a node.
func (s *subject) after(r rule, node int) (api.Prog, api.Errno) {
	m, is := s.match(r, node)
	switch {
	case !is:
		return api.Prog{}, ErrMatch
	case r.holds != nil && !r.holds(m):
		return api.Prog{}, ErrSide
	}
	q, _, e := lang.Canon(m.replaced(m.made(r.result)))
	return q, e
}

// steps yields the steps that are possible, in their order, with the programs after them.
func (s *subject) steps() iter.Seq2[api.RwStep, api.Prog] {
	return func(yield func(api.RwStep, api.Prog) bool) {
		rules := table()
		for node := range s.Nodes {
			for i, r := range rules {
				q, e := s.after(r, node)
				if e == api.OK && !yield(api.RwStep{Rule: i + 1, Node: node}, q) {
					return
				}
			}
		}
	}
}

// made returns the nodes that a result asks for, as they are numbered in place of the node,
// and the one that stands for it then.
func (m *match) made(result string) (nodes []api.Node, last int) {
	var open []int // the nodes that are no operands yet
	for _, sign := range result {
		node, is := m.letters[sign]
		if !is {
			n := m.newNode(sign)
			from := len(open) - len(lang.Kids(n))
			node = m.at + len(nodes)
			nodes = append(nodes, withKids(n, open[from:]))
			open = open[:from]
		}
		open = append(open, node)
	}
	last = open[0]
	if format := m.Nodes[m.at].Format; len(nodes) == 0 && m.Nodes[last].Format != format {
		return []api.Node{{Op: api.OpCast, A: last, Format: format}}, m.at
	}
	return nodes, last
}

// newNode returns the node for a rune of a result that is no letter, without its operands.
func (m *match) newNode(sign rune) api.Node {
	n := api.Node{Op: api.OpConst, Format: m.Nodes[m.at].Format}
	switch {
	case isDigit(sign):
		n.Value = api.Rat(string(sign))
	case sign == folded:
		x, _ := m.constantValue()
		n.Value = x.Text()
	default:
		n.Op = operation(sign)
	}
	return n
}

// withKids returns the node with these operands.
func withKids(n api.Node, kids []int) api.Node {
	fields := [...]*int{&n.A, &n.B, &n.C, &n.D}
	for i, k := range kids {
		*fields[i] = k
	}
	return n
}

// replaced returns the program with these nodes in place of the node, and with the last one
// for it. It is not in canonical form.
func (m *match) replaced(nodes []api.Node, last int) api.Prog {
	more := len(nodes) - 1
	number := func(node int) int {
		switch {
		case node < m.at:
			return node
		case node == m.at:
			return last
		}
		return node + more
	}
	p := m.Prog
	p.Nodes = make([]api.Node, len(m.Nodes)+more)
	copy(p.Nodes, m.Nodes[:m.at])
	copy(p.Nodes[m.at:], nodes)
	behind := p.Nodes[m.at+len(nodes):]
	copy(behind, m.Nodes[m.at+1:])
	for i, n := range behind {
		kids := lang.Kids(n)
		for j, k := range kids {
			kids[j] = number(k)
		}
		behind[i] = withKids(n, kids)
	}
	p.Head, p.Tail = len(p.Nodes), len(p.Nodes)
	p.Result = number(p.Result)
	return p
}
