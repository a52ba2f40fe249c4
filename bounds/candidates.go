package bounds

import (
	"vernier/api"
	"vernier/lang"
	"vernier/proofs"
)

// candidates makes the candidates of a node of a leaf.
type candidates struct {
	*leaf
	node int
	step claim // the tight one by PfStep, or its error
	e    api.Errno
}

// candidate is a claim that follows.
type candidate struct {
	claim
	whole api.PfClaim
}

// best returns the best claim of a node by the claims of its operands. It makes no use of
// the one that the leaf has of the node.
func (l *leaf) best(node int) (api.PfClaim, api.Errno) {
	c := &candidates{leaf: l, node: node}
	c.step, c.e = c.tight(api.PfClaim{Rule: api.PfStep})
	var best *candidate
	for _, candidateBy := range []func() *candidate{c.byStep, c.byExact, c.byMean, c.bySquares} {
		if next := candidateBy(); next != nil && (best == nil || next.isBetter(best.claim)) {
			best = next
		}
	}
	switch {
	case best != nil:
		return best.whole, api.OK
	case c.e != api.OK:
		return api.PfClaim{}, c.e
	}
	return api.PfClaim{}, api.ErrLong
}

// tight returns the tight claim of a claim of the node.
func (c *candidates) tight(of api.PfClaim) (claim, api.Errno) {
	c.item.Claims[c.node] = of
	lo, hi, err, e := proofs.Tight(c.Prog, c.box, c.item, c.node)
	return claim{lo, hi, err}, e
}

// offer returns the candidate by a tight claim, unless it is too long. Ends that squares
// prove stay what they are.
func (c *candidates) offer(of api.PfClaim, tight claim) *candidate {
	out := tight.outward(c.plan.Bits)
	if out.isLong() {
		return nil
	}
	if len(of.Low) > 0 {
		out.lo = tight.lo
	}
	if len(of.High) > 0 {
		out.hi = tight.hi
	}
	t := out.text()
	of.Lo, of.Hi, of.Err = t.Lo, t.Hi, t.Err
	return &candidate{out, of}
}

// by returns the candidate by a rule and squares, if the rule applies.
func (c *candidates) by(of api.PfClaim) *candidate {
	t, e := c.tight(of)
	if e != api.OK {
		return nil
	}
	return c.offer(of, t)
}

func (c *candidates) byStep() *candidate {
	if c.e != api.OK {
		return nil
	}
	return c.offer(api.PfClaim{Rule: api.PfStep}, c.step)
}

func (c *candidates) byExact() *candidate {
	if c.Nodes[c.node].Op != api.OpSub {
		return nil
	}
	return c.by(api.PfClaim{Rule: api.PfExact})
}

func (c *candidates) byMean() *candidate {
	if !c.plan.Mean || !c.hasOperands() {
		return nil
	}
	return c.by(api.PfClaim{Rule: api.PfMean})
}

func (c *candidates) hasOperands() bool { return len(lang.Kids(c.Nodes[c.node])) > 0 }

func (c *candidates) bySquares() *candidate {
	if !c.plan.Squares || !c.hasOperands() || c.e != api.OK {
		return nil
	}
	of, is := c.squares()
	if !is {
		return nil
	}
	return c.by(of)
}

// squares returns the claim by squares, if these prove an end that PfStep does not.
func (c *candidates) squares() (of api.PfClaim, is bool) {
	f := c.polynomialOf(c.node)
	if f.e != api.OK {
		return api.PfClaim{}, false
	}
	lo, hi, low, high, e := Certificate(f.terms, c.box)
	if e != api.OK {
		return api.PfClaim{}, false
	}
	of.Rule = api.PfSquares
	if len(low) > 0 && lo.Cmp(c.step.lo) > 0 {
		of.Lo, of.Low = lo.Text(), low
	}
	if len(high) > 0 && hi.Cmp(c.step.hi) < 0 {
		of.Hi, of.High = hi.Text(), high
	}
	return of, len(of.Low) > 0 || len(of.High) > 0
}
