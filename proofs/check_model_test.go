package proofs_test

import (
	"slices"

	"vernier/api"
	"vernier/exact"
	"vernier/proofs"
)

// verdict is what Check returns.
type verdict struct {
	item, node int
	e          api.Errno
}

// leafModel is a leaf of a tree, with its box.
type leafModel struct {
	item int
	box  []api.Span
}

// boxOf returns the box of a program.
func boxOf(p api.Prog) []api.Span {
	var out []api.Span
	for _, in := range p.Inputs {
		out = append(out, api.Span{Lo: in.Lo, Hi: in.Hi})
	}
	return out
}

// checkModel checks a proof of a valid program.
func checkModel(p api.Prog, q api.Proof) verdict {
	whole, leaves, v := treeModel(p, q)
	if v.e != api.OK {
		return v
	}
	for _, l := range leaves {
		m := &model{p, toSpans(l.box), q.Items[l.item]}
		if node, e := m.check(whole); e != api.OK {
			return verdict{l.item, node, e}
		}
	}
	return verdict{}
}

// treeModel returns the claim of a proof, and its leaves, or what is wrong.
func treeModel(p api.Prog, q api.Proof) (said, []leafModel, verdict) {
	if len(q.Items) > 200 {
		return said{}, nil, verdict{-1, -1, api.ErrLong}
	}
	whole, e := readSaid(q.Lo, q.Hi, q.Err)
	if e != api.OK {
		return said{}, nil, verdict{-1, -1, e}
	}
	var leaves []leafModel
	at := 0
	// walk goes through the tree of a box from at on.
	var walk func(box []api.Span) api.Errno
	walk = func(box []api.Span) api.Errno {
		if at == len(q.Items) {
			return proofs.ErrTree
		}
		x := q.Items[at]
		switch x.Kind {
		case api.PfLeaf:
			if x.Input != 0 || x.At != "" || len(x.Claims) != len(p.Nodes) || len(x.States) != len(p.States) {
				return proofs.ErrTree
			}
			leaves = append(leaves, leafModel{at, box})
			at++
			return api.OK
		case api.PfSplit:
			if len(x.Claims)+len(x.States) > 0 || x.Input < 0 || x.Input >= len(box) {
				return proofs.ErrTree
			}
			if e := exact.Check(x.At); e != api.OK {
				return e
			}
			whole := box[x.Input]
			if toRat(x.At).Cmp(toRat(whole.Lo)) <= 0 || toRat(x.At).Cmp(toRat(whole.Hi)) >= 0 {
				return proofs.ErrTree
			}
			at++
			for _, s := range []api.Span{{Lo: whole.Lo, Hi: x.At}, {Lo: x.At, Hi: whole.Hi}} {
				half := slices.Clone(box)
				half[x.Input] = s
				if e := walk(half); e != api.OK {
					return e
				}
			}
			return api.OK
		}
		return proofs.ErrTree
	}
	if e := walk(boxOf(p)); e != api.OK {
		return said{}, nil, verdict{at, -1, e}
	}
	if at < len(q.Items) {
		return said{}, nil, verdict{at, -1, proofs.ErrTree}
	}
	return whole, leaves, verdict{}
}

func isNothing(c api.PfClaim) bool {
	return dump(c) == dump(api.PfClaim{}) || dump(c) == dump(api.PfClaim{Low: []api.PfSquare{}, High: []api.PfSquare{}})
}

// check returns what is wrong with a leaf.
func (m *model) check(whole said) (node int, e api.Errno) {
	nodes, states := neededIn(m.p)
	var ofStates []said
	for i, c := range m.item.States {
		s, e := readSaid(c.Lo, c.Hi, c.Err)
		switch {
		case !states[i] && !isNothing(c):
			return -1, proofs.ErrClaim
		case states[i] && e != api.OK:
			return -1, e
		case states[i] && (c.Rule != 0 || len(c.Low)+len(c.High) > 0):
			return -1, proofs.ErrClaim
		}
		ofStates = append(ofStates, s)
	}
	for i, c := range m.item.Claims {
		s, e := readSaid(c.Lo, c.Hi, c.Err)
		switch {
		case !nodes[i] && !isNothing(c):
			return i, proofs.ErrClaim
		case nodes[i] && e != api.OK:
			return i, e
		case !nodes[i]:
			continue
		}
		from, e := m.tight(i)
		if e != api.OK {
			return i, e
		}
		if !s.follows(from) {
			return i, proofs.ErrClaim
		}
	}
	for i, s := range ofStates {
		if !states[i] {
			continue
		}
		first, _ := m.claimOf(m.p.States[i].Init)
		next, _ := m.claimOf(m.p.States[i].Next)
		if !s.follows(first) || !s.follows(next) {
			return -1, proofs.ErrState
		}
	}
	if result, _ := m.claimOf(m.p.Result); !whole.follows(result) {
		return -1, proofs.ErrResult
	}
	return 0, api.OK
}
