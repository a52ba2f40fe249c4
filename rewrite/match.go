package rewrite

import (
	"slices"

	"vernier/api"
	"vernier/lang"
)

// match is a node at which the pattern of a rule is, and the nodes that its letters are.
type match struct {
	*subject
	at      int
	letters map[rune]int
}

// match returns where the pattern of a rule is, if it is at a node.
func (s *subject) match(r rule, at int) (m *match, is bool) {
	m = &match{s, at, map[rune]int{}}
	open := []int{at} // the nodes that the rest of the pattern is about, the next one last
	for _, sign := range r.pattern {
		last := len(open) - 1
		node := open[last]
		open = open[:last]
		if !m.accepts(sign, node) {
			return nil, false
		}
		if operation(sign) != 0 {
			kids := lang.Kids(s.Nodes[node])
			slices.Reverse(kids)
			open = append(open, kids...)
		}
	}
	return m, true
}

// accepts reports whether a node may be what a rune of the pattern says.
func (m *match) accepts(sign rune, node int) bool {
	n := m.Nodes[node]
	switch {
	case isLetter(sign):
		before, is := m.letters[sign]
		m.letters[sign] = node
		return !is || before == node
	case isDigit(sign):
		return n.Op == api.OpConst && n.Value == api.Rat(string(sign))
	case sign == folded:
		return m.hasConstants(node)
	}
	return n.Op == operation(sign)
}

// hasConstants reports whether a node has operands, all of which are constants.
func (m *match) hasConstants(node int) bool {
	kids := lang.Kids(m.Nodes[node])
	return len(kids) > 0 && !slices.ContainsFunc(kids, func(k int) bool { return m.Nodes[k].Op != api.OpConst })
}
