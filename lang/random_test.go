package lang_test

import (
	"math/rand"
	"testing"

	"vernier/api"
)

// maker makes random programs that are valid.
type maker struct {
	*rand.Rand
	p     api.Prog
	loops bool
}

// randomProgram returns a valid program with at most 40 nodes; many of its nodes
// are equal, and many are not needed.
func randomProgram(t testing.TB, random *rand.Rand) api.Prog {
	m := &maker{Rand: random, loops: random.Intn(3) > 0}
	m.p.Mode = m.Intn(5)
	m.p.Formats = []api.Format{{E: 8, P: 24}, {E: 5, P: 11}, {E: 3, P: 3}}[:1+m.Intn(3)]
	for range m.Intn(3) {
		m.p.Inputs = append(m.p.Inputs, api.Input{Format: m.format(), Lo: "-1/2", Hi: api.Rat([]string{"-1/2", "0", "5"}[m.Intn(3)])})
	}
	m.section(1 + m.Intn(12))
	m.p.Head = len(m.p.Nodes)
	if m.loops {
		for range 1 + m.Intn(3) {
			m.p.States = append(m.p.States, api.State{Init: m.Intn(m.p.Head)})
		}
		m.section(m.Intn(14))
	}
	m.p.Tail = len(m.p.Nodes)
	if m.loops {
		m.section(m.Intn(12))
		m.nexts()
	}
	m.p.Result = m.Intn(m.p.Head)
	if rest := len(m.p.Nodes) - m.p.Tail; rest > 0 && m.Intn(5) > 0 {
		m.p.Result = len(m.p.Nodes) - 1 - m.Intn(min(3, rest))
	} else if !m.loops {
		m.p.Result = m.p.Head - 1 - m.Intn(min(3, m.p.Head))
	}
	return valid(t, clone(m.p))
}

func (m *maker) format() int { return m.Intn(len(m.p.Formats)) }

// section appends nodes of one section.
func (m *maker) section(count int) {
	from := len(m.p.Nodes)
	for range count {
		var sees []int
		for i := range m.p.Nodes {
			if i < m.p.Head || from == 0 || i >= from {
				sees = append(sees, i)
			}
		}
		m.p.Nodes = append(m.p.Nodes, m.node(sees))
	}
}

// node returns a node with operands among those that it sees.
func (m *maker) node(sees []int) api.Node {
	n := api.Node{Format: m.format()}
	kind := m.Intn(20)
	switch {
	case kind < 2 && len(m.p.Inputs) > 0:
		n.Op, n.A = api.OpInput, m.Intn(len(m.p.Inputs))
		n.Format = m.p.Inputs[n.A].Format
	case kind < 6 && len(m.p.States) > 0:
		n.Op, n.A = api.OpState, m.Intn(len(m.p.States))
		n.Format = m.p.Nodes[m.p.States[n.A].Init].Format
	case kind < 8 || len(sees) == 0:
		n.Op, n.Value = api.OpConst, api.Rat([]string{"0", "1", "-1/3"}[m.Intn(3)])
	default:
		n.Op = api.OpNeg + m.Intn(12)
		if m.Intn(2) > 0 { // so that many are equal
			n.Op, n.Format = api.OpNeg+4*m.Intn(2), 0
		}
		for i := range operandCounts[n.Op] {
			*[...]*int{&n.A, &n.B, &n.C, &n.D}[i] = sees[max(m.Intn(len(sees)), m.Intn(len(sees)))]
		}
	}
	return n
}

// nexts chooses a Next of the right format for each state.
func (m *maker) nexts() {
	for s, x := range m.p.States {
		m.p.States[s].Next = x.Init
		for range 5 {
			next := m.Intn(m.p.Tail)
			if m.p.Nodes[next].Format == m.p.Nodes[x.Init].Format {
				m.p.States[s].Next = next
			}
		}
	}
}
