package reals_test

import (
	"math"
	"slices"
	"strings"
	"testing"

	"vernier/api"
	"vernier/exact"
	"vernier/reals"
)

// nines is the greatest number that a text may have.
var nines = api.Rat(strings.Repeat("9", 2000))

// badNodes are nodes that are not valid as the node 2 of a list, with their errors.
func badNodes() map[api.RlNode]api.Errno {
	out := map[api.RlNode]api.Errno{
		{}:                                   api.ErrArg,
		{Kind: 11, A: 0, B: 1}:               api.ErrArg,
		{Kind: -1}:                           api.ErrArg,
		{Kind: math.MaxInt, A: 9, Val: "x"}:  api.ErrArg,
		{Kind: api.RlNum, Val: "1", A: 1}:    api.ErrArg,
		{Kind: api.RlNum, Val: "1", B: 1}:    api.ErrArg,
		{Kind: api.RlNum, Val: "x", B: -1}:   api.ErrArg,
		{Kind: api.RlNum}:                    api.ErrForm,
		{Kind: api.RlNum, Val: "x"}:          api.ErrForm,
		{Kind: api.RlNum, Val: "2/4"}:        api.ErrForm,
		{Kind: api.RlNum, Val: "-0"}:         api.ErrForm,
		{Kind: api.RlNum, Val: "1/0"}:        api.ErrForm,
		{Kind: api.RlNum, Val: nines + "9"}:  api.ErrLong,
		{Kind: api.RlNum, Val: "1/" + nines}: api.OK,
	}
	for kind := api.RlNeg; kind <= api.RlRoot; kind++ {
		out[api.RlNode{Kind: kind, A: 2}] = api.ErrRange
		out[api.RlNode{Kind: kind, A: -1}] = api.ErrRange
		out[api.RlNode{Kind: kind, A: math.MinInt}] = api.ErrRange
		out[api.RlNode{Kind: kind, A: 1, B: 1}] = api.ErrArg
		out[api.RlNode{Kind: kind, A: 9, B: -1}] = api.ErrArg
		out[api.RlNode{Kind: kind, A: 9, Val: "1"}] = api.ErrArg
		out[api.RlNode{Kind: kind, A: 1}] = api.OK
	}
	for kind := api.RlAdd; kind <= api.RlMax; kind++ {
		out[api.RlNode{Kind: kind, A: 2}] = api.ErrRange
		out[api.RlNode{Kind: kind, A: 1, B: 3}] = api.ErrRange
		out[api.RlNode{Kind: kind, A: math.MaxInt, B: 0}] = api.ErrRange
		out[api.RlNode{Kind: kind, A: 0, B: -1}] = api.ErrRange
		out[api.RlNode{Kind: kind, A: 2, B: 2, Val: "0"}] = api.ErrArg
		out[api.RlNode{Kind: kind, A: 1, B: 1}] = api.OK
	}
	return out
}

// TestP3_1_Nodes: each kind, with what it does not use and with numbers of nodes
// that are not earlier ones.
func TestP3_1_Nodes(t *testing.T) {
	for x, want := range badNodes() {
		at := 2
		if want == api.OK {
			at = 0
		}
		l := append(list(t, "2; 3"), x)
		expectInt(t, textOf(list(t, "2; 3"))+" and a node", at, want)(reals.Check(l))
		behind := append(slices.Clone(l), list(t, "5; 0 by 9; 1/0")[1])
		if want != api.OK {
			expectInt(t, "the first node with an error", 2, want)(reals.Check(behind))
		}
	}
}

// TestP3_1_Lists: the number of nodes, and errors that Check does not look at.
func TestP3_1_Lists(t *testing.T) {
	expectInt(t, "no list", 0, api.OK)(reals.Check(nil))
	expectInt(t, "an empty list", 0, api.OK)(reals.Check([]api.RlNode{}))
	full := slices.Repeat(list(t, "2"), 300)
	expectInt(t, "300 nodes", 0, api.OK)(reals.Check(full))
	expectInt(t, "301 nodes", 0, api.ErrLong)(reals.Check(append(slices.Clone(full), full[0])))
	expectInt(t, "301 nodes, one of them bad", 0, api.ErrLong)(reals.Check(append(slices.Clone(full), api.RlNode{})))
	full[7] = api.RlNode{Kind: api.RlNeg, A: 7}
	full[9] = api.RlNode{}
	expectInt(t, "two bad nodes", 7, api.ErrRange)(reals.Check(full))
	for _, text := range []string{"0; 0 by 0", "-1; sqrt 0", "2; sqrt 0; sqrt 1; sqrt 2; sqrt 3; sqrt 4", "1; 0 by 0; 1 less 1; 0 by 2; neg 3"} {
		expectInt(t, text, 0, api.OK)(reals.Check(list(t, text)))
	}
	long := []api.RlNode{{Kind: api.RlNum, Val: nines}, {Kind: api.RlMul}, {Kind: api.RlMul, A: 1, B: 1}}
	expectInt(t, "great weights", 0, api.OK)(reals.Check(long))
}

// call is a call of a function with the node i of a list; it tells whether all
// results beside the error are zero.
type call struct {
	name string
	do   func(l []api.RlNode, i int) (zero bool, e api.Errno)
}

// calls returns calls of all functions with a node. Those that have an argument
// more are given one that is not valid, if late is set.
func calls(late bool) []call {
	k, x, d, f, mode := 3, exact.Int(1), exact.Int(1), api.Format{E: 5, P: 11}, api.RnUp
	if late {
		k, d, f, mode = api.MaxRlScale+1, exact.Int(-1), api.Format{E: 1, P: 5}, 5
	}
	return []call{
		{"Prune", func(l []api.RlNode, i int) (bool, api.Errno) {
			out, e := reals.Prune(l, i)
			return len(out) == 0, e
		}},
		{"Weight", func(l []api.RlNode, i int) (bool, api.Errno) {
			w, e := reals.Weight(l, i)
			return w == 0, e
		}},
		{"Roots", func(l []api.RlNode, i int) (bool, api.Errno) {
			roots, e := reals.Roots(l, i)
			return len(roots) == 0, e
		}},
		{"Rational", func(l []api.RlNode, i int) (bool, api.Errno) {
			x, plain, e := reals.Rational(l, i)
			return x.Sign() == 0 && !plain, e
		}},
		{"Sign", func(l []api.RlNode, i int) (bool, api.Errno) {
			sign, e := reals.Sign(l, i)
			return sign == 0, e
		}},
		{"Cmp", func(l []api.RlNode, i int) (bool, api.Errno) {
			order, e := reals.Cmp(l, i, 0)
			return order == 0, e
		}},
		{"Cmp, the other one", func(l []api.RlNode, i int) (bool, api.Errno) {
			order, e := reals.Cmp(l, 0, i)
			return order == 0, e
		}},
		{"Log", func(l []api.RlNode, i int) (bool, api.Errno) {
			k, e := reals.Log(l, i)
			return k == 0, e
		}},
		{"Floor", func(l []api.RlNode, i int) (bool, api.Errno) {
			n, e := reals.Floor(l, i, k)
			return n.Sign() == 0, e
		}},
		{"Enclose", func(l []api.RlNode, i int) (bool, api.Errno) {
			lo, hi, e := reals.Enclose(l, i, 10)
			return lo.Sign() == 0 && hi.Sign() == 0, e
		}},
		{"Within", func(l []api.RlNode, i int) (bool, api.Errno) {
			is, e := reals.Within(l, i, x, d)
			return !is, e
		}},
		{"Round", func(l []api.RlNode, i int) (bool, api.Errno) {
			w, flags, e := reals.Round(l, i, f, mode)
			return w == api.Word{} && flags == 0, e
		}},
	}
}

// TestP3_1_Others: all functions return the error of Check first, before there is
// no such node, or an argument is not valid.
func TestP3_1_Others(t *testing.T) {
	for x, want := range badNodes() {
		l := append(list(t, "-2; 1"), x)
		if want == api.OK {
			continue
		}
		for _, c := range calls(true) {
			for _, i := range []int{0, 1, 2, 3, -1} {
				if zero, e := c.do(l, i); !zero || e != want {
					t.Errorf("%s of %d with the node %.50v: zero %v, error %d, want %d", c.name, i, x, zero, e, want)
				}
			}
		}
		if out, at, e := reals.Put(l, l[0]); len(out) != 0 || at != 0 || e != want {
			t.Errorf("Put with the node %.50v: %d nodes, %d, error %d", x, len(out), at, e)
		}
		if out, e := reals.Join(l, list(t, "1")); len(out) != 0 || e != want {
			t.Errorf("Join with the node %.50v: %d nodes, error %d", x, len(out), e)
		}
		if out, e := reals.Join(list(t, "1"), l); len(out) != 0 || e != want {
			t.Errorf("Join to the node %.50v: %d nodes, error %d", x, len(out), e)
		}
	}
}

// TestP3_3_None: numbers of nodes that are none, before arguments that are not
// valid.
func TestP3_3_None(t *testing.T) {
	for _, l := range [][]api.RlNode{nil, list(t, "1"), list(t, "-1; sqrt 0; 1 by 1")} {
		for _, c := range calls(true) {
			for _, i := range []int{-1, len(l), 300, math.MaxInt, math.MinInt} {
				if zero, e := c.do(l, i); !zero || e != api.ErrNone {
					t.Errorf("%s of %d of %d nodes: zero %v, error %d", c.name, i, len(l), zero, e)
				}
			}
		}
	}
	l := list(t, "-1; sqrt 0")
	expectInt(t, "a node with an error and none", 0, api.ErrNone)(reals.Cmp(l, 1, 2))
	expectInt(t, "none and a node with an error", 0, api.ErrNone)(reals.Cmp(l, -1, 1))
}

// TestP3_3_Errors: errors of nodes, before arguments that are not valid, and
// arguments that are not, before nothing else.
func TestP3_3_Errors(t *testing.T) {
	for text, want := range map[string]api.Errno{"-1; sqrt 0": api.ErrDomain, "0; 0 by 0": api.ErrZero, "2; sqrt 0; sqrt 1; sqrt 2; sqrt 3": api.ErrLong} {
		l := list(t, text)
		for _, late := range []bool{false, true} {
			for _, c := range calls(late) {
				zero, e := c.do(l, len(l)-1)
				fault := want
				if c.name == "Prune" || c.name == "Weight" {
					zero, fault = !zero, api.OK
				}
				if !zero || e != fault {
					t.Errorf("%s of the last one of %s: zero %v, error %d", c.name, text, zero, e)
				}
			}
		}
	}
	late := map[string]api.Errno{"Floor": api.ErrRange, "Within": api.ErrArg, "Round": api.ErrArg}
	for _, text := range []string{"1", "2; sqrt 0"} {
		l := list(t, text)
		for _, c := range calls(true) {
			if want, has := late[c.name]; has {
				if zero, e := c.do(l, len(l)-1); !zero || e != want {
					t.Errorf("%s: zero %v, error %d, want %d", c.name, zero, e, want)
				}
			}
		}
	}
}
