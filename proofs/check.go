package proofs

import (
	"vernier/api"
	"vernier/exact"
)

// checker checks a proof of a program. What is wrong with it leaves the checker at
// once.
type checker struct {
	*program
	tree
	proof api.Proof
	whole claim // of the proof
}

// rejection is what leaves the checker: the place, and the error.
type rejection struct {
	item, node int
	e          api.Errno
}

// require leaves the checker, unless there is no error.
func require(item, node int, e api.Errno) {
	if e != api.OK {
		panic(rejection{item, node, e})
	}
}

// orError returns an error, unless something is as it has to be.
func orError(is bool, e api.Errno) api.Errno {
	if is {
		return api.OK
	}
	return e
}

func newChecker(p *program, q api.Proof) *checker {
	return &checker{program: p, tree: tree{q.Items, p.box()}, proof: q}
}

// run returns what leaves the checker, if anything does.
func (c *checker) run(checks ...func()) (item, node int, e api.Errno) {
	defer func() {
		switch left := recover().(type) {
		case nil:
		case rejection:
			item, node, e = left.item, left.node, left.e
		default: // no proof is known to lead here; if one does, it is not accepted
			item, node, e = -1, -1, api.ErrLong
		}
	}()
	for _, check := range checks {
		check()
	}
	return 0, 0, api.OK
}

// checkTree checks all but the claims of leaves.
func (c *checker) checkTree() {
	require(-1, -1, orError(len(c.items) <= api.MaxItems, api.ErrLong))
	var e api.Errno
	c.whole, e = readClaim(c.proof.Lo, c.proof.Hi, c.proof.Err)
	require(-1, -1, e)
	i, open := 0, 1
	for item, over := range c.boxes() {
		switch item.Kind {
		case api.PfLeaf:
			require(i, -1, c.checkLeafItem(item))
			open--
		case api.PfSplit:
			require(i, -1, c.checkSplit(item, over))
			open++
		default:
			require(i, -1, ErrTree)
		}
		i++
	}
	require(i, -1, orError(open == 0 && i == len(c.items), ErrTree))
}

func (c *checker) checkLeafItem(item api.PfItem) api.Errno {
	is := item.Input == 0 && item.At == "" && len(item.Claims) == len(c.Nodes) && len(item.States) == len(c.States)
	return orError(is, ErrTree)
}

func (c *checker) checkSplit(item api.PfItem, over []interval) api.Errno {
	if len(item.Claims) > 0 || len(item.States) > 0 || !c.hasInput(item.Input) {
		return ErrTree
	}
	at, e := exact.Parse(item.At)
	if e != api.OK {
		return e
	}
	return orError(isBetween(at, over[item.Input]), ErrTree)
}

// isBetween reports whether a number is above the lower end and below the upper one.
func isBetween(x exact.Num, a interval) bool { return a.lo.Cmp(x) < 0 && x.Cmp(a.hi) < 0 }

// checkLeaves checks the claims of leaves.
func (c *checker) checkLeaves() {
	for i, over := range c.leaves() {
		l := newLeaf(c.program, over, c.items[i].Claims, c.items[i].States)
		for s := range c.States {
			require(i, -1, l.checkState(s))
		}
		for n := range c.Nodes {
			require(i, n, l.checkNode(n))
		}
		require(i, -1, orError(l.isClosed(), ErrState))
		result, _ := l.claimOf(c.Result)
		require(i, -1, orError(result.isWithin(c.whole), ErrResult))
	}
}

// checkState checks the claim of a state for itself.
func (l *leaf) checkState(state int) api.Errno {
	c := l.states[state]
	if !l.needsState[state] {
		return orError(isZero(c), ErrClaim)
	}
	if _, e := l.stateOf(state); e != api.OK {
		return e
	}
	return orError(c.Rule == 0 && !hasSquares(c), ErrClaim)
}

// checkNode checks the claim of a node by the claims of nodes before it.
func (l *leaf) checkNode(node int) api.Errno {
	if !l.needsNode[node] {
		return orError(isZero(l.claims[node]), ErrClaim)
	}
	claimed, e := l.claimOf(node)
	if e != api.OK {
		return e
	}
	t, e := l.tight(node)
	if e != api.OK {
		return e
	}
	return orError(t.isWithin(claimed), ErrClaim)
}

// isClosed reports whether the claims of states hold before the first step, and after
// each one.
func (l *leaf) isClosed() bool {
	for s, x := range l.States {
		if !l.needsState[s] {
			continue
		}
		state, _ := l.stateOf(s)
		first, _ := l.claimOf(x.Init)
		next, _ := l.claimOf(x.Next)
		if !first.isWithin(state) || !next.isWithin(state) {
			return false
		}
	}
	return true
}
