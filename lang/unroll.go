package lang

import (
	"slices"

	"vernier/api"
)

// unroller makes a program without a loop.
type unroller struct {
	api.Prog
	out    []api.Node
	nodes  []int // what stands for each node of the program at last
	states []int // the node that each state is
}

// Unroll returns the program without its loop.
func Unroll(p api.Prog, steps int) (api.Prog, api.Errno) {
	if _, e := checked(p); e != api.OK {
		return api.Prog{}, e
	}
	if steps < 0 || steps > api.MaxSteps {
		return api.Prog{}, api.ErrRange
	}
	if p.Head+steps*countCopied(p.Nodes[p.Head:p.Tail])+countCopied(p.Nodes[p.Tail:]) > api.MaxNodes {
		return api.Prog{}, api.ErrLong
	}
	u := &unroller{Prog: p, nodes: make([]int, len(p.Nodes)), states: make([]int, len(p.States))}
	u.copyNodes(0, p.Head)
	for s, x := range p.States {
		u.states[s] = u.nodes[x.Init]
	}
	for range steps {
		u.copyNodes(p.Head, p.Tail)
		for s, x := range p.States {
			u.states[s] = u.nodes[x.Next]
		}
	}
	u.copyNodes(p.Tail, len(p.Nodes))
	return api.Prog{
		Formats: slices.Clone(p.Formats),
		Mode:    p.Mode,
		Inputs:  slices.Clone(p.Inputs),
		Nodes:   u.out,
		Head:    len(u.out),
		Tail:    len(u.out),
		Result:  u.nodes[p.Result],
	}, api.OK
}

// countCopied returns of how many nodes there are copies: not of those for which
// another node stands.
func countCopied(nodes []api.Node) int {
	count := 0
	for _, n := range nodes {
		if n.Op != api.OpState {
			count++
		}
	}
	return count
}

// copyNodes copies the nodes from one on, and before another one.
func (u *unroller) copyNodes(from, to int) {
	for i := from; i < to; i++ {
		n := u.Nodes[i]
		if n.Op == api.OpState {
			u.nodes[i] = u.states[n.A]
			continue
		}
		u.nodes[i] = len(u.out)
		u.out = append(u.out, moved(n, u.nodes))
	}
}
