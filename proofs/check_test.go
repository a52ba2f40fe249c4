package proofs_test

import (
	"slices"
	"testing"

	"vernier/api"
	"vernier/proofs"
)

// two is a program with two inputs, and one with a proof of three leaves.
const two = "format h 5 11; input x : h from 0 to 2; input y : h from 1 to 3; let a : h = x + y; result a"

func ofTwo(t testing.TB) api.Proof {
	t.Helper()
	return proof("1 5 1/512",
		split(0, "1"),
		split(1, "3/2"),
		leaf(t, "step 0 1 0; step 1 3/2 0; step 1 5/2 1/1024", ""),
		leaf(t, "step 0 1 0; step 3/2 3 0; step 3/2 4 1/512", ""),
		leaf(t, "step 1 2 0; step 1 3 0; step 2 5 1/512", ""),
	)
}

var (
	long    = api.Rat(digits(api.MaxDigits + 1))
	longest = api.Rat(digits(api.MaxDigits))
)

// edited is a proof that has been changed, and what Check returns for it.
type edited struct {
	name       string
	edit       func(q *api.Proof)
	item, node int
	e          api.Errno
}

func expectEdited(t *testing.T, p api.Prog, of func(testing.TB) api.Proof, all []edited) {
	t.Helper()
	expectCheck(t, "not edited", 0, 0, api.OK)(proofs.Check(p, of(t)))
	for _, x := range all {
		q := of(t)
		x.edit(&q)
		expectCheck(t, x.name, x.item, x.node, x.e)(proofs.Check(p, q))
		if x.e == api.OK || x.item < 0 || x.node >= 0 || x.e == proofs.ErrState || x.e == proofs.ErrResult {
			continue
		}
		// What is wrong with the tree is wrong for others, too.
		if _, _, e := proofs.Boxes(p, q); e != x.e && e != api.OK {
			t.Errorf("%s: Boxes has the error %d", x.name, e)
		}
	}
}

// TestP7_1_Whole: the errors of the proof as a whole, in their order.
func TestP7_1_Whole(t *testing.T) {
	p := program(t, two)
	grow := func(q *api.Proof, count int) { q.Items = slices.Repeat([]api.PfItem{{}}, count) }
	expectEdited(t, p, ofTwo, []edited{
		{"too many items", func(q *api.Proof) { grow(q, 201); q.Lo = "x" }, -1, -1, api.ErrLong},
		{"not too many items", func(q *api.Proof) { grow(q, 200) }, 0, -1, proofs.ErrTree},
		{"Lo", func(q *api.Proof) { q.Lo, q.Hi = "x", long }, -1, -1, api.ErrForm},
		{"a long Lo", func(q *api.Proof) { q.Lo, q.Hi = long, "x" }, -1, -1, api.ErrLong},
		{"no Hi", func(q *api.Proof) { q.Hi, q.Err = "", long }, -1, -1, api.ErrForm},
		{"a long Err", func(q *api.Proof) { q.Hi, q.Err = "0", long }, -1, -1, api.ErrLong},
		{"Lo above Hi", func(q *api.Proof) { q.Hi, q.Items = "1/2", nil }, -1, -1, proofs.ErrClaim},
		{"Err below 0", func(q *api.Proof) { q.Err, q.Items = "-1/512", nil }, -1, -1, proofs.ErrClaim},
		{"long, but not too long", func(q *api.Proof) { q.Lo, q.Hi, q.Err = "-"+longest, longest, longest }, 0, 0, api.OK},
	})
	p.Result = 9
	q := ofTwo(t)
	grow(&q, 201)
	expectCheck(t, "no program", -1, -1, api.ErrRange)(proofs.Check(p, q))
	p.Formats = nil
	expectCheck(t, "no program at all", -1, -1, api.ErrArg)(proofs.Check(p, api.Proof{}))
}

// TestP7_1_Tree: the errors of items, in their order.
func TestP7_1_Tree(t *testing.T) {
	p := program(t, two)
	claim := []api.PfClaim{{}}
	expectEdited(t, p, ofTwo, []edited{
		{"no items", func(q *api.Proof) { q.Items = nil }, 0, -1, proofs.ErrTree},
		{"an empty list of items", func(q *api.Proof) { q.Items = []api.PfItem{} }, 0, -1, proofs.ErrTree},
		{"no kind", func(q *api.Proof) { q.Items[2].Kind = 0 }, 2, -1, proofs.ErrTree},
		{"another kind", func(q *api.Proof) { q.Items[0].Kind = 3 }, 0, -1, proofs.ErrTree},
		{"a kind below 0", func(q *api.Proof) { q.Items[4].Kind = -1 }, 4, -1, proofs.ErrTree},
		{"the first of two", func(q *api.Proof) { q.Items[4].Kind, q.Items[3].Kind = 0, 0 }, 3, -1, proofs.ErrTree},
		{"a leaf with an input", func(q *api.Proof) { q.Items[2].Input = 1 }, 2, -1, proofs.ErrTree},
		{"a leaf with a place", func(q *api.Proof) { q.Items[2].At = "0" }, 2, -1, proofs.ErrTree},
		{"a split with claims", func(q *api.Proof) { q.Items[1].Claims, q.Items[1].At = claim, "x" }, 1, -1, proofs.ErrTree},
		{"a split with states", func(q *api.Proof) { q.Items[1].States, q.Items[1].At = claim, long }, 1, -1, proofs.ErrTree},
		{"a split with empty lists", func(q *api.Proof) {
			q.Items[1].Claims, q.Items[1].States = []api.PfClaim{}, []api.PfClaim{}
		}, 0, 0, api.OK},
		{"no input", func(q *api.Proof) { q.Items[0].Input, q.Items[0].At = 2, "x" }, 0, -1, proofs.ErrTree},
		{"an input below 0", func(q *api.Proof) { q.Items[0].Input, q.Items[0].At = -1, "x" }, 0, -1, proofs.ErrTree},
		{"no place", func(q *api.Proof) { q.Items[0].At = "" }, 0, -1, api.ErrForm},
		{"a long place", func(q *api.Proof) { q.Items[1].At = long }, 1, -1, api.ErrLong},
		{"a place at the lower end", func(q *api.Proof) { q.Items[1].At = "1" }, 1, -1, proofs.ErrTree},
		{"a place at the upper end", func(q *api.Proof) { q.Items[1].At = "3" }, 1, -1, proofs.ErrTree},
		{"a place below", func(q *api.Proof) { q.Items[1].At = "1/2" }, 1, -1, proofs.ErrTree},
		{"a place in the other half", func(q *api.Proof) { q.Items[1] = split(0, "3/2") }, 1, -1, proofs.ErrTree},
		{"a place at a split", func(q *api.Proof) { q.Items[1] = split(0, "1") }, 1, -1, proofs.ErrTree},
		{"fewer claims", func(q *api.Proof) { q.Items[3].Claims = q.Items[3].Claims[:2] }, 3, -1, proofs.ErrTree},
		{"no claims", func(q *api.Proof) { q.Items[3].Claims = nil }, 3, -1, proofs.ErrTree},
		{"more claims", func(q *api.Proof) { q.Items[3].Claims = append(q.Items[3].Claims, api.PfClaim{}) }, 3, -1, proofs.ErrTree},
		{"states", func(q *api.Proof) { q.Items[3].States = claim }, 3, -1, proofs.ErrTree},
		{"an item is not there", func(q *api.Proof) { q.Items = q.Items[:4] }, 4, -1, proofs.ErrTree},
		{"a split at the end", func(q *api.Proof) { q.Items[4] = split(1, "2") }, 5, -1, proofs.ErrTree},
		{"a leaf after the end", func(q *api.Proof) { q.Items = append(q.Items, q.Items[4]) }, 5, -1, proofs.ErrTree},
		{"a split after the end", func(q *api.Proof) { q.Items = append(q.Items, split(0, "x")) }, 5, -1, proofs.ErrTree},
		{"one leaf, and others", func(q *api.Proof) { q.Items[0] = q.Items[2] }, 1, -1, proofs.ErrTree},
		{"the tree comes ahead of claims", func(q *api.Proof) {
			q.Items[2].Claims[0].Err, q.Items[4].At = "x", "0"
		}, 4, -1, proofs.ErrTree},
	})
}

// TestP7_1_Nodes: the errors of the claims of nodes, in their order.
func TestP7_1_Nodes(t *testing.T) {
	// Node 1 is not needed.
	p := program(t, "format h 5 11; input x : h from 1 to 2; let w : h = x + x; let a : h = x * x; let b : h = a - x; result b")
	of := func(t testing.TB) api.Proof {
		t.Helper()
		return proof("-1 3 3/1024", leaf(t, "step 1 2 0; -; step 1 4 1/512; step -1 3 3/1024", ""))
	}
	node := func(i int, edit func(c *api.PfClaim)) func(*api.Proof) {
		return func(q *api.Proof) { edit(&q.Items[0].Claims[i]) }
	}
	some := []api.PfSquare{{Coef: "1", Input: -1}}
	many := slices.Repeat(some, 21)
	expectEdited(t, p, of, []edited{
		{"a rule of what is not needed", node(1, func(c *api.PfClaim) { c.Rule = 1 }), 0, 1, proofs.ErrClaim},
		{"Lo of what is not needed", node(1, func(c *api.PfClaim) { c.Lo = "0" }), 0, 1, proofs.ErrClaim},
		{"Hi of what is not needed", node(1, func(c *api.PfClaim) { c.Hi = "x" }), 0, 1, proofs.ErrClaim},
		{"Err of what is not needed", node(1, func(c *api.PfClaim) { c.Err = "0" }), 0, 1, proofs.ErrClaim},
		{"squares of what is not needed", node(1, func(c *api.PfClaim) { c.Low = some }), 0, 1, proofs.ErrClaim},
		{"squares of what is not needed", node(1, func(c *api.PfClaim) { c.High = some }), 0, 1, proofs.ErrClaim},
		{"empty lists of what is not needed", node(1, func(c *api.PfClaim) { c.Low, c.High = some[:0], some[:0] }), 0, 0, api.OK},
		{"no claim of what is needed", node(2, func(c *api.PfClaim) { *c = api.PfClaim{} }), 0, 2, api.ErrForm},
		{"Lo", node(2, func(c *api.PfClaim) { c.Lo, c.Hi, c.Rule = long, "x", 0 }), 0, 2, api.ErrLong},
		{"Hi", node(2, func(c *api.PfClaim) { c.Hi, c.Err, c.Rule = "x", long, 0 }), 0, 2, api.ErrForm},
		{"Err", node(2, func(c *api.PfClaim) { c.Lo, c.Err, c.Rule = "5", long, 0 }), 0, 2, api.ErrLong},
		{"Lo above Hi", node(2, func(c *api.PfClaim) { c.Lo, c.Low = "5", many }), 0, 2, proofs.ErrClaim},
		{"Err below 0", node(2, func(c *api.PfClaim) { c.Err, c.Low = "-1/1000", many }), 0, 2, proofs.ErrClaim},
		{"many squares", node(2, func(c *api.PfClaim) { c.Low, c.Err = many, "0" }), 0, 2, api.ErrLong},
		{"no rule", node(2, func(c *api.PfClaim) { c.Rule, c.Err = 5, "0" }), 0, 2, proofs.ErrRule},
		{"squares of another rule", node(2, func(c *api.PfClaim) { c.High = some }), 0, 2, proofs.ErrRule},
		{"a rule that does not apply", node(3, func(c *api.PfClaim) { c.Rule, c.Lo = 2, "0" }), 0, 3, proofs.ErrRule},
		{"a greater Lo", node(3, func(c *api.PfClaim) { c.Lo = "-9/10" }), 0, 3, proofs.ErrClaim},
		{"a lesser Hi", node(3, func(c *api.PfClaim) { c.Hi = "29/10" }), 0, 3, proofs.ErrClaim},
		{"a lesser Err", node(3, func(c *api.PfClaim) { c.Err = "1/512" }), 0, 3, proofs.ErrClaim},
		{"a wider claim", node(2, func(c *api.PfClaim) { c.Lo = "1/2" }), 0, 3, proofs.ErrClaim},
		{"a wider claim of the result", node(3, func(c *api.PfClaim) { c.Lo = "-2" }), 0, -1, proofs.ErrResult},
		{"a wider claim of the result", node(3, func(c *api.PfClaim) { c.Hi = "4" }), 0, -1, proofs.ErrResult},
		{"more error of the result", node(3, func(c *api.PfClaim) { c.Err = "1/256" }), 0, -1, proofs.ErrResult},
		{"a claim of an input", node(0, func(c *api.PfClaim) { c.Lo = "3/2" }), 0, 0, proofs.ErrClaim},
		{"the first node", func(q *api.Proof) { q.Items[0].Claims[0].Lo, q.Items[0].Claims[1].Lo = "x", "0" }, 0, 0, api.ErrForm},
	})
	// A step that is not possible.
	p = program(t, "format h 5 11; input x : h from -1 to 2; let a : h = sqrt(x); result a")
	expectCheck(t, "a root", 0, 1, proofs.ErrFault)(proofs.Check(p, proof("0 2 1", leaf(t, "step -1 2 0; step 0 2 1", ""))))
	expectCheck(t, "a root, and squares of another rule", 0, 1, proofs.ErrRule)(proofs.Check(p, proof("0 2 1", leaf(t, "step -1 2 0; 0 0 2 1", ""))))
}

// TestP7_1_States: the errors of the claims of states, in their order.
func TestP7_1_States(t *testing.T) {
	p := program(t, halves)
	state := func(edit func(c *api.PfClaim)) func(*api.Proof) {
		return func(q *api.Proof) { edit(&q.Items[0].States[0]) }
	}
	some := []api.PfSquare{{Coef: "1", Input: -1}}
	expectEdited(t, p, ofHalves, []edited{
		{"no claim", state(func(c *api.PfClaim) { *c = api.PfClaim{} }), 0, -1, api.ErrForm},
		{"Lo", state(func(c *api.PfClaim) { c.Lo, c.Hi, c.Rule = "x", long, 1 }), 0, -1, api.ErrForm},
		{"Hi", state(func(c *api.PfClaim) { c.Hi, c.Err = long, "x" }), 0, -1, api.ErrLong},
		{"Err", state(func(c *api.PfClaim) { c.Lo, c.Err = "2", long }), 0, -1, api.ErrLong},
		{"Lo above Hi", state(func(c *api.PfClaim) { c.Lo = "2" }), 0, -1, proofs.ErrClaim},
		{"Err below 0", state(func(c *api.PfClaim) { c.Err = "-1" }), 0, -1, proofs.ErrClaim},
		{"a rule", state(func(c *api.PfClaim) { c.Rule = api.PfStep }), 0, -1, proofs.ErrClaim},
		{"squares", state(func(c *api.PfClaim) { c.Low = some }), 0, -1, proofs.ErrClaim},
		{"squares", state(func(c *api.PfClaim) { c.High = some }), 0, -1, proofs.ErrClaim},
		{"empty lists", state(func(c *api.PfClaim) { c.Low, c.High = some[:0], some[:0] }), 0, 0, api.OK},
		{"states come ahead of nodes", func(q *api.Proof) { q.Items[0].States[0].Rule, q.Items[0].Claims[0].Lo = 1, "x" }, 0, -1, proofs.ErrClaim},
		{"no claims of states", func(q *api.Proof) { q.Items[0].States = nil }, 0, -1, proofs.ErrTree},
		{"a lesser Hi than Init has", state(func(c *api.PfClaim) { c.Hi = "9/10" }), 0, -1, proofs.ErrState},
		{"a greater Lo", state(func(c *api.PfClaim) { c.Lo = "1/10" }), 0, -1, proofs.ErrState},
		{"a lesser Err than Next has", state(func(c *api.PfClaim) { c.Err = "1/4096" }), 0, -1, proofs.ErrState},
		{"a wider claim", state(func(c *api.PfClaim) { c.Lo = "-1/10" }), 0, 1, proofs.ErrClaim},
		{"states come ahead of the result", func(q *api.Proof) { q.Items[0].States[0].Hi, q.Hi = "9/10", "1/2" }, 0, -1, proofs.ErrState},
		{"the result", func(q *api.Proof) { q.Hi = "1/2" }, 0, -1, proofs.ErrResult},
	})
	// A state that is not needed, and one of which only Next is.
	p = program(t, "format h 5 11; input x : h from 0 to 1; state t : h = x; state u : h = x; loop; next t = t / 2; next u = u + 1; end; result t")
	of := func(t testing.TB) api.Proof {
		t.Helper()
		return proof("0 1 1/2048", leaf(t, "step 0 1 0; step 0 1 1/2048; -; step 2 2 0; step 0 1/2 1/2048; -; -; step 0 1 1/2048; -", "state 0 1 1/2048; -"))
	}
	second := func(edit func(c *api.PfClaim)) func(*api.Proof) {
		return func(q *api.Proof) { edit(&q.Items[0].States[1]) }
	}
	expectEdited(t, p, of, []edited{
		{"Lo", second(func(c *api.PfClaim) { c.Lo = "x" }), 0, -1, proofs.ErrClaim},
		{"a claim", second(func(c *api.PfClaim) { *c = api.PfClaim{Lo: "0", Hi: "1", Err: "0"} }), 0, -1, proofs.ErrClaim},
		{"squares", second(func(c *api.PfClaim) { c.High = some }), 0, -1, proofs.ErrClaim},
		{"empty lists", second(func(c *api.PfClaim) { c.High = some[:0] }), 0, 0, api.OK},
		{"the first state", func(q *api.Proof) { q.Items[0].States[1].Lo, q.Items[0].States[0].Lo = "0", "x" }, 0, -1, api.ErrForm},
	})
}

// TestP7_1_Leaves: the first leaf with an error decides.
func TestP7_1_Leaves(t *testing.T) {
	p := program(t, two)
	expectEdited(t, p, ofTwo, []edited{
		{"the second leaf", func(q *api.Proof) { q.Items[3].Claims[2].Err = "0" }, 3, 2, proofs.ErrClaim},
		{"the result in the second leaf", func(q *api.Proof) { q.Items[3].Claims[2].Err, q.Items[4].Claims[0].Lo = "1/2", "x" }, 3, -1, proofs.ErrResult},
		{"the third leaf", func(q *api.Proof) { q.Items[4].Claims[0].Lo = "x" }, 4, 0, api.ErrForm},
		{"both", func(q *api.Proof) { q.Items[2].Claims[2].Lo, q.Items[4].Claims[0].Lo = "2", "x" }, 2, 2, proofs.ErrClaim},
		{"the box of a leaf", func(q *api.Proof) { q.Items[1].At = "2" }, 2, 1, proofs.ErrClaim},
		{"the result", func(q *api.Proof) { q.Lo = "3/2" }, 2, -1, proofs.ErrResult},
		{"the result of the third leaf", func(q *api.Proof) { q.Hi = "9/2" }, 4, -1, proofs.ErrResult},
		{"the result of the second leaf", func(q *api.Proof) { q.Err = "1/1000" }, 3, -1, proofs.ErrResult},
	})
}

// TestP7_1_Limits: as many items as there may be in a tree.
func TestP7_1_Limits(t *testing.T) {
	p := program(t, "format d 11 53; input x : d from 0 to 1; let a : d = x; result a")
	q := proof("0 1 0")
	var uppers []api.PfItem
	at := rat(1, 1)
	for range 99 {
		half := over(at, rat(2, 1))
		q.Items = append(q.Items, split(0, toText(half)))
		uppers = append(uppers, leaf(t, "step "+string(toText(half))+" "+string(toText(at))+" 0", ""))
		at = half
	}
	slices.Reverse(uppers)
	q.Items = append(q.Items, leaf(t, "step 0 "+string(toText(at))+" 0", ""))
	q.Items = append(q.Items, uppers...)
	expectCheck(t, "199 items", 0, 0, api.OK)(proofs.Check(p, q))
	q.Items = append(q.Items, uppers[0])
	expectCheck(t, "200 items", 199, -1, proofs.ErrTree)(proofs.Check(p, q))
	q.Items = append(q.Items, uppers[0])
	expectCheck(t, "201 items", -1, -1, api.ErrLong)(proofs.Check(p, q))
}
