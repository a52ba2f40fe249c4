package lang

import (
	"slices"

	"vernier/api"
)

// needs marks what is needed of a valid program.
type needs struct {
	api.Prog
	nodes, states []bool
}

func findNeeds(p api.Prog) *needs {
	n := &needs{p, make([]bool, len(p.Nodes)), make([]bool, len(p.States))}
	n.markNode(p.Result)
	return n
}

func (n *needs) markNode(i int) {
	if n.nodes[i] {
		return
	}
	n.nodes[i] = true
	x := n.Nodes[i]
	for _, k := range Kids(x) {
		n.markNode(k)
	}
	if x.Op == api.OpState {
		n.markState(x.A)
	}
}

func (n *needs) markState(s int) {
	if n.states[s] {
		return
	}
	n.states[s] = true
	n.markNode(n.States[s].Init)
	n.markNode(n.States[s].Next)
}

// Needs returns which nodes and states are needed.
func Needs(p api.Prog) (nodes, states []bool, e api.Errno) {
	if _, e := checked(p); e != api.OK {
		return nil, nil, e
	}
	n := findNeeds(p)
	return n.nodes, n.states, api.OK
}

// place is a node in a section: equal nodes of one section are equal places.
type place struct {
	section int
	node    api.Node
}

// canonizer makes the canonical form of a program.
type canonizer struct {
	api.Prog
	needed *needs
	out    api.Prog
	known  map[place]int
	stands []int // what stands for each node of the program, or -1
	states []int // the new number of each state that is left
}

// Canon returns the canonical form, and what stands for each node.
func Canon(p api.Prog) (q api.Prog, nodes []int, e api.Errno) {
	if _, e := checked(p); e != api.OK {
		return api.Prog{}, nil, e
	}
	c := &canonizer{
		Prog:   p,
		needed: findNeeds(p),
		out:    api.Prog{Formats: slices.Clone(p.Formats), Mode: p.Mode, Inputs: slices.Clone(p.Inputs)},
		known:  map[place]int{},
		stands: slices.Repeat([]int{-1}, len(p.Nodes)),
		states: make([]int, len(p.States)),
	}
	c.canonize()
	if len(c.out.Nodes) > api.MaxNodes {
		return api.Prog{}, nil, api.ErrLong
	}
	return c.out, c.stands, api.OK
}

func (c *canonizer) canonize() {
	for s, x := range c.States {
		if c.needed.states[s] {
			c.states[s] = len(c.out.States)
			c.out.States = append(c.out.States, x)
		}
	}
	for i, in := range c.Inputs {
		c.put(inHead, api.Node{Op: api.OpInput, A: i, Format: in.Format})
	}
	c.putNodes(0, c.Head)
	c.out.Head = len(c.out.Nodes)
	c.putStates(inBody)
	c.putNodes(c.Head, c.Tail)
	c.out.Tail = len(c.out.Nodes)
	c.putStates(inRest)
	c.putNodes(c.Tail, len(c.Nodes))
	if len(c.out.States) == 0 {
		c.out.Head, c.out.Tail = len(c.out.Nodes), len(c.out.Nodes)
	}
	for s, x := range c.out.States {
		c.out.States[s] = api.State{Init: c.stands[x.Init], Next: c.stands[x.Next]}
	}
	c.out.Result = c.stands[c.Result]
}

func (c *canonizer) putStates(section int) {
	for s, x := range c.out.States {
		c.put(section, api.Node{Op: api.OpState, A: s, Format: c.Nodes[x.Init].Format})
	}
}

// putNodes puts those nodes from one on, and before another one, for which
// anything stands.
func (c *canonizer) putNodes(from, to int) {
	for i := from; i < to; i++ {
		n := c.Nodes[i]
		switch {
		case n.Op == api.OpState && c.needed.states[n.A]:
			n.A = c.states[n.A]
		case n.Op != api.OpInput && !c.needed.nodes[i]:
			continue
		}
		c.stands[i] = c.put(section(c.Prog, i), moved(n, c.stands))
	}
}

// put returns the number of the node that stands for one with new numbers: of an
// equal one that it sees, or of a new one.
func (c *canonizer) put(section int, n api.Node) int {
	for _, s := range [...]int{inHead, section} {
		if i, is := c.known[place{s, n}]; is {
			return i
		}
	}
	i := len(c.out.Nodes)
	c.known[place{section, n}] = i
	c.out.Nodes = append(c.out.Nodes, n)
	return i
}
