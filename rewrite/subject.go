package rewrite

import (
	"vernier/api"
	"vernier/lang"
	"vernier/ranges"
)

// subject is a canonical form without states, with the best ranges that have been asked for.
type subject struct {
	api.Prog
	best map[int]bestRange
}

// bestRange is the best range of a node, if there is one.
type bestRange struct {
	ranges.Interval
	is bool
}

// read returns the canonical form of a program.
func read(p api.Prog) (*subject, api.Errno) {
	q, _, e := lang.Canon(p)
	switch {
	case e != api.OK:
		return nil, e
	case len(q.States) > 0:
		return nil, ErrState
	}
	return newSubject(q), api.OK
}

func newSubject(canonical api.Prog) *subject {
	return &subject{canonical, map[int]bestRange{}}
}

// rangeOf returns the best range of a node over the program's box.
func (s *subject) rangeOf(node int) bestRange {
	known, is := s.best[node]
	if !is {
		x, e := ranges.Best(s.Prog, s.box(), node)
		known = bestRange{x, e == api.OK}
		s.best[node] = known
	}
	return known
}

func (s *subject) box() []api.Span {
	var out []api.Span
	for _, in := range s.Inputs {
		out = append(out, api.Span{Lo: in.Lo, Hi: in.Hi})
	}
	return out
}
