package run

import (
	"iter"

	"vernier/api"
	"vernier/exact"
	"vernier/floats"
	"vernier/lang"
)

// plan is what is to be done in a run: a valid program, which of its nodes are
// needed, and the steps.
type plan struct {
	api.Prog
	needed  []bool
	steps   int
	numbers []exact.Num // of the nodes OpInput and OpConst
}

// newPlan returns a plan without numbers.
func newPlan(p api.Prog, steps int) (*plan, api.Errno) {
	needed, _, e := lang.Needs(p)
	switch {
	case e != api.OK:
		return nil, e
	case steps < 0 || steps > api.MaxSteps:
		return nil, api.ErrRange
	}
	return &plan{Prog: p, needed: needed, steps: steps}, api.OK
}

// readPlan returns the plan of a run, or what has the error: an input, or -1.
func readPlan(p api.Prog, in []api.Rat, steps int) (x *plan, input int, e api.Errno) {
	x, e = newPlan(p, steps)
	switch {
	case e != api.OK:
		return nil, -1, e
	case len(in) != len(p.Inputs):
		return nil, -1, api.ErrArg
	}
	inputs := make([]exact.Num, len(in))
	for i, text := range in {
		if inputs[i], e = x.readInput(i, text); e != api.OK {
			return nil, i, e
		}
	}
	if x.count() > api.MaxRnNode {
		return nil, -1, api.ErrLong
	}
	x.setNumbers(inputs)
	return x, 0, api.OK
}

// readInput returns the number of an input.
func (p *plan) readInput(i int, text api.Rat) (exact.Num, api.Errno) {
	x, e := exact.Parse(text)
	if e != api.OK {
		return exact.Num{}, e
	}
	in := p.Inputs[i]
	lo, _ := exact.Parse(in.Lo)
	hi, _ := exact.Parse(in.Hi)
	if !floats.Has(p.Formats[in.Format], x) || x.Cmp(lo) < 0 || x.Cmp(hi) > 0 {
		return exact.Num{}, api.ErrRange
	}
	return x, api.OK
}

func (p *plan) setNumbers(inputs []exact.Num) {
	p.numbers = make([]exact.Num, len(p.Nodes))
	for i, n := range p.Nodes {
		switch {
		case n.Op == api.OpInput:
			p.numbers[i] = inputs[n.A]
		case n.Op == api.OpConst && p.needed[i]:
			p.numbers[i], _ = exact.Parse(n.Value)
		}
	}
}

// place is one time that a node is done.
type place struct{ node, step int }

// order yields when needed nodes are done.
func (p *plan) order() iter.Seq[place] {
	return func(yield func(place) bool) {
		for step := range p.steps + 2 {
			from, to := p.section(step)
			for i := from; i < to; i++ {
				if p.needed[i] && !yield(place{i, step}) {
					return
				}
			}
		}
	}
}

// section returns from which node on, and before which one, nodes are done in a
// step.
func (p *plan) section(step int) (from, to int) {
	switch {
	case step == 0:
		return 0, p.Head
	case step <= p.steps:
		return p.Head, p.Tail
	}
	return p.Tail, len(p.Nodes)
}

func (p *plan) count() int {
	count := 0
	for range p.order() {
		count++
	}
	return count
}
