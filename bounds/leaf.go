package bounds

import (
	"vernier/api"
	"vernier/lang"
	"vernier/proofs"
)

// derivation is a program whose proofs are derived by a plan.
type derivation struct {
	api.Prog
	plan        api.BdPlan
	needsNode   []bool
	states      []int         // the needed ones
	polynomials []*polynomial // those that have been asked for
}

// polynomial is that of a node, or its error.
type polynomial struct {
	terms []api.PfTerm
	e     api.Errno
}

// readPlan returns the error of the plan, or that of the program.
func readPlan(p api.Prog, plan api.BdPlan) (*derivation, api.Errno) {
	if e := Check(plan); e != api.OK {
		return nil, e
	}
	nodes, states, e := lang.Needs(p)
	if e != api.OK {
		return nil, e
	}
	d := &derivation{Prog: p, plan: plan, needsNode: nodes, polynomials: make([]*polynomial, len(p.Nodes))}
	for s, needed := range states {
		if needed {
			d.states = append(d.states, s)
		}
	}
	return d, api.OK
}

func (d *derivation) polynomialOf(node int) *polynomial {
	if d.polynomials[node] == nil {
		terms, e := proofs.Poly(d.Prog, node)
		d.polynomials[node] = &polynomial{terms, e}
	}
	return d.polynomials[node]
}

// leaf is a box with the claims that are derived over it. What has no claim leaves it at
// once.
type leaf struct {
	*derivation
	box  []api.Span
	item api.PfItem
}

// gap is what leaves a leaf: the error of a claim that there is not.
type gap struct{ e api.Errno }

// attempt returns what leaves a leaf, if anything does.
func attempt(derive func()) (e api.Errno) {
	defer func() {
		switch left := recover().(type) {
		case nil:
		case gap:
			e = left.e
		default: // no program is known to lead here; if one does, nothing is proved of it
			e = api.ErrLong
		}
	}()
	derive()
	return api.OK
}

// leafOver returns the claims over a box.
func (d *derivation) leafOver(box []api.Span) (api.PfItem, api.Errno) {
	l := &leaf{d, box, api.PfItem{
		Kind:   api.PfLeaf,
		Claims: make([]api.PfClaim, len(d.Nodes)),
		States: make([]api.PfClaim, len(d.States)),
	}}
	if e := attempt(l.derive); e != api.OK {
		return api.PfItem{}, e
	}
	return l.item, api.OK
}

func (l *leaf) derive() {
	l.claimNodes(0, l.Head)
	l.closeStates()
	l.shrinkStates()
	l.claimNodes(l.Tail, len(l.Nodes))
}

// claimNodes claims what is best of the needed nodes from one on, and before another one.
func (l *leaf) claimNodes(from, to int) {
	for i := from; i < to; i++ {
		if !l.needsNode[i] {
			continue
		}
		c, e := l.best(i)
		if e != api.OK {
			panic(gap{e})
		}
		l.item.Claims[i] = c
	}
}
