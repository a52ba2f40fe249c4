package lang_test

import (
	"fmt"
	"math/rand"
	"slices"
	"strings"
	"testing"

	"vernier/api"
	"vernier/lang"
)

// modelNeeds marks what is needed as the definition says it, until nothing is
// added any more.
func modelNeeds(p api.Prog) (nodes, states map[int]bool) {
	nodes, states = map[int]bool{p.Result: true}, map[int]bool{}
	for before := -1; before != len(nodes)+len(states); {
		before = len(nodes) + len(states)
		for i, n := range p.Nodes {
			if !nodes[i] {
				continue
			}
			for k := range operandCounts[n.Op] {
				nodes[[...]int{n.A, n.B, n.C, n.D}[k]] = true
			}
			if n.Op == api.OpState {
				states[n.A] = true
				nodes[p.States[n.A].Init], nodes[p.States[n.A].Next] = true, true
			}
		}
	}
	return nodes, states
}

// modelNode is a node of a canonical form that is being made.
type modelNode struct {
	section int
	text    string // the node with new numbers
	node    api.Node
}

// modelCanon makes the canonical form by looking for equal nodes one by one.
func modelCanon(p api.Prog) (q api.Prog, stands []int) {
	needed, states := modelNeeds(p)
	newState := map[int]int{}
	q = api.Prog{Formats: p.Formats, Mode: p.Mode, Inputs: p.Inputs}
	for s := range p.States {
		if states[s] {
			newState[s] = len(newState)
		}
	}
	var list []modelNode
	find := func(section int, n api.Node) int {
		text := fmt.Sprintf("%+v", n)
		for i, x := range list {
			if x.text == text && (x.section == 0 || x.section == section) {
				return i
			}
		}
		list = append(list, modelNode{section, text, n})
		return len(list) - 1
	}
	stands = make([]int, len(p.Nodes))
	for section := range 3 {
		if section == 0 {
			for k, in := range p.Inputs {
				find(0, api.Node{Op: api.OpInput, A: k, Format: in.Format})
			}
		}
		for s, x := range p.States {
			if states[s] && section > 0 {
				find(section, api.Node{Op: api.OpState, A: newState[s], Format: p.Nodes[x.Init].Format})
			}
		}
		for i, n := range p.Nodes {
			is := 0
			if i >= p.Head {
				is++
			}
			if i >= p.Tail && len(p.States) > 0 {
				is++
			}
			if is != section {
				continue
			}
			stands[i] = -1
			switch {
			case n.Op == api.OpInput:
			case n.Op == api.OpState && states[n.A]:
				n.A = newState[n.A]
			case !needed[i]:
				continue
			}
			for k := range operandCounts[n.Op] {
				f := [...]*int{&n.A, &n.B, &n.C, &n.D}[k]
				*f = stands[*f]
			}
			stands[i] = find(section, n)
		}
		switch section {
		case 0:
			q.Head = len(list)
		case 1:
			q.Tail = len(list)
		}
	}
	for s, x := range p.States {
		if states[s] {
			q.States = append(q.States, api.State{Init: stands[x.Init], Next: stands[x.Next]})
		}
	}
	if len(q.States) == 0 {
		q.Head, q.Tail = len(list), len(list)
	}
	for _, x := range list {
		q.Nodes = append(q.Nodes, x.node)
	}
	q.Result = stands[p.Result]
	return q, stands
}

func expectCanon(t *testing.T, p, want api.Prog, wantNodes []int) {
	t.Helper()
	q, nodes, e := lang.Canon(valid(t, p))
	if e != api.OK || dump(q) != dump(want) || !slices.Equal(nodes, wantNodes) {
		t.Errorf("Canon of %s: error %d\n%s, %v\nwant\n%s, %v", dump(p), e, dump(q), nodes, dump(want), wantNodes)
	}
}

// TestP4_2_Needs: operands, states, and what only states need.
func TestP4_2_Needs(t *testing.T) {
	// State 0 is needed by the result, state 1 by the next of state 0, state 2 by
	// its own next alone.
	p := draft(t, "const 0; const 1; const 2; const 3", "state 0; state 1; add 4 5; neg 5; state 2; abs 8", "const 5; state 0; neg 11; state 2", "0 6; 1 7; 2 9", 12)
	wantNodes := []bool{true, true, false, false, true, true, true, true, false, false, false, true, true, false}
	wantStates := []bool{true, true, false}
	nodes, states, e := lang.Needs(valid(t, p))
	if e != api.OK || !slices.Equal(nodes, wantNodes) || !slices.Equal(states, wantStates) {
		t.Errorf("Needs: %v, %v, error %d", nodes, states, e)
	}
	p.Result = 3
	nodes, states, e = lang.Needs(p)
	if e != api.OK || !slices.Equal(nodes, []bool{3: true, 13: false}) || !slices.Equal(states, make([]bool, 3)) {
		t.Errorf("Needs of a constant: %v, %v, error %d", nodes, states, e)
	}
	sel := draft(t, "const 0; const 1; const 2; const 3; const 4; sel 3 1 4 0; fma 0 1 2", "", "", "", 5)
	nodes, states, e = lang.Needs(valid(t, sel))
	if e != api.OK || !slices.Equal(nodes, []bool{true, true, false, true, true, true, false}) || len(states) != 0 {
		t.Errorf("Needs of a choice: %v, %v, error %d", nodes, states, e)
	}
}

// TestP4_2_CanonHead: inputs come first, equal nodes are left out, and so is what
// is not needed.
func TestP4_2_CanonHead(t *testing.T) {
	p := draft(t, "const 2; input@1 1; cast 1; input@1 1; cast 3; mul 2 4; mul 4 2; add 0 5; const 2; add 8 6; sub 7 9; neg 2", "", "", "", 10)
	want := draft(t, "input 0; input@1 1; const 2; cast 1; mul 3 3; add 2 4; sub 5 5", "", "", "", 6)
	expectCanon(t, p, want, []int{2, 1, 3, 1, 3, 4, 4, 5, 2, 5, 6, -1})

	different := "const 2; const@1 2; const 3; add 0 2; add 2 0; add@1 0 2; sub 0 2; sel 3 4 5 6; min 7 1"
	p = draft(t, different, "", "", "", 8)
	want = draft(t, "input 0; input@1 1; const 2; const@1 2; const 3; add 2 4; add 4 2; add@1 2 4; sub 2 4; sel 5 6 7 8; min 9 3", "", "", "", 10)
	expectCanon(t, p, want, []int{2, 3, 4, 5, 6, 7, 8, 9, 10})

	p = draft(t, "const 1; input@1 1; neg 0", "", "", "", 0)
	expectCanon(t, p, draft(t, "input 0; input@1 1; const 1", "", "", "", 2), []int{2, 1, -1})
}

// TestP4_2_CanonLoop: states that are left get new numbers and nodes of their own;
// equal nodes are left out only where one sees the other.
func TestP4_2_CanonLoop(t *testing.T) {
	head := "input 0; const 1; const 2"
	body := "const 5; state 2; const 1; add 4 5; add 4 3; state 1; input 0; state 2; sub 10 6; add 11 3"
	rest := "const 5; state 2; add 14 13; state 0; input@1 1; state 1; state 2; mul 15 19; add 20 1"
	p := draft(t, head, body, rest, "0 1; 1 2; 2 12", 21)
	body, rest = "state 0; const 5; add 4 2; sub 4 6; add 7 5", "state 0; const 5; add 9 10; mul 11 9; add 12 2"
	want := draft(t, "input 0; input@1 1; const 1; const 2", body, rest, "3 8", 13)
	expectCanon(t, p, want, []int{0, 2, 3, 5, 4, 2, 6, -1, -1, 0, 4, 7, 8, 10, 9, 11, -1, 1, -1, 9, 12, 13})
}

// TestP4_2_CanonStates: a state that only another one needs is left, with nodes in
// both sections; without states the rest comes behind the head.
func TestP4_2_CanonStates(t *testing.T) {
	p := draft(t, "const 1; const 2", "state 1; neg 2", "state 0; neg 4", "0 2; 1 3", 5)
	want := draft(t, "input 0; input@1 1; const 1; const 2", "state 0; state 1; neg 5", "state 0; state 1; neg 7", "2 5; 3 6", 9)
	expectCanon(t, p, want, []int{2, 3, 5, 6, 7, 9})

	p = draft(t, "const 1; const 2; neg 1", "state 0; neg 3", "state 0; const 2; neg 6; const 7; fma 7 8 1", "0 4", 9)
	want = draft(t, "input 0; input@1 1; const 2; neg 2; const 7; fma 3 4 2", "", "", "", 5)
	expectCanon(t, p, want, []int{-1, 2, -1, -1, -1, -1, 2, 3, 4, 5})

	p.Result = 2
	want = draft(t, "input 0; input@1 1; const 2; neg 2", "", "", "", 3)
	expectCanon(t, p, want, []int{-1, 2, 3, -1, -1, -1, -1, -1, -1, -1})

	// The node of the state is in its section also where only others of it are used.
	p = draft(t, "const 1; const 2", "state 0; state 1; add 2 3", "state 1; neg 5", "0 4; 1 0", 6)
	want = draft(t, "input 0; input@1 1; const 1; const 2", "state 0", "state 0; neg 5", "3 2", 6)
	expectCanon(t, p, want, []int{2, 3, -1, 4, -1, 5, 6})
}

// TestP4_2_CanonLong: inputs and states may be too many nodes more.
func TestP4_2_CanonLong(t *testing.T) {
	chain := "const 1;"
	for i := range 61 {
		chain += fmt.Sprintf("neg %d;", i)
	}
	full := valid(t, draft(t, chain, "", "", "", 61))
	q, _, e := lang.Canon(full)
	if e != api.OK || len(q.Nodes) != 64 {
		t.Errorf("two inputs and 62 nodes: %d, error %d", len(q.Nodes), e)
	}
	for _, more := range []string{"neg 61; neg 62", "neg 61; abs 62", "neg 61"} {
		p := valid(t, draft(t, chain+more, "", "", "", 61+strings.Count(more, ";")+1))
		q, nodes, e := lang.Canon(p)
		if e != api.ErrLong || !isZero(q) || len(nodes) != 0 {
			t.Errorf("two inputs and %d nodes: %d, error %d", len(p.Nodes), len(q.Nodes), e)
		}
		if text, e := lang.Print(p); text != "" || e != api.ErrLong {
			t.Errorf("Print of it: error %d", e)
		}
	}
	p := valid(t, draft(t, chain+"neg 60; add 61 62", "", "", "", 61))
	if q, _, e := lang.Canon(p); e != api.OK || len(q.Nodes) != 64 {
		t.Errorf("nodes that are not needed: %d, error %d", len(q.Nodes), e)
	}
	p = valid(t, draft(t, strings.ReplaceAll(chain, "neg 58", "neg 57")+"neg 61", "", "", "", 62))
	if q, _, e := lang.Canon(p); e != api.OK || len(q.Nodes) != 64 {
		t.Errorf("nodes that are equal: %d, error %d", len(q.Nodes), e)
	}
}

// TestP4_2_Random: Needs and Canon do what the definitions say.
func TestP4_2_Random(t *testing.T) {
	random := rand.New(rand.NewSource(42))
	loops, left := 0, 0
	for range 20000 {
		p := randomProgram(t, random)
		nodes, states, e := lang.Needs(p)
		wantNodes, wantStates := modelNeeds(p)
		for i, is := range nodes {
			if is != wantNodes[i] {
				t.Fatalf("%s: is node %d needed? %v", dump(p), i, is)
			}
		}
		for s, is := range states {
			if is != wantStates[s] {
				t.Fatalf("%s: is state %d needed? %v", dump(p), s, is)
			}
		}
		if e != api.OK || len(nodes) != len(p.Nodes) || len(states) != len(p.States) {
			t.Fatalf("Needs: %v, %v, error %d", nodes, states, e)
		}
		q, stands := modelCanon(p)
		expectCanon(t, p, q, stands)
		if len(p.States) > 0 {
			loops++
		}
		if len(q.States) > 0 {
			left++
		}
	}
	if loops < 5000 || left < 3000 {
		t.Errorf("only %d programs have loops, and %d canonical forms", loops, left)
	}
}

// TestP4_9_Canonical: all nodes but those of inputs and states are needed, and no
// two that see each other are equal.
func TestP4_9_Canonical(t *testing.T) {
	random := rand.New(rand.NewSource(49))
	for range 5000 {
		p := randomProgram(t, random)
		q, _, e := lang.Canon(p)
		if e != api.OK {
			t.Fatalf("Canon: error %d", e)
		}
		valid(t, q)
		needed, states, _ := lang.Needs(q)
		if slices.Contains(states, false) {
			t.Fatalf("a state is not needed: %s", dump(q))
		}
		most := len(p.Nodes) + len(q.Inputs) + 2*len(q.States)
		if len(q.Nodes) > most {
			t.Fatalf("%d nodes have become %d", len(p.Nodes), len(q.Nodes))
		}
		for i, n := range q.Nodes {
			if !needed[i] && n.Op != api.OpInput && n.Op != api.OpState {
				t.Fatalf("node %d is not needed: %s", i, dump(q))
			}
			for j := range i {
				of, _ := lang.Section(q, i)
				other, _ := lang.Section(q, j)
				if q.Nodes[j] == n && (other == 0 || of == other) {
					t.Fatalf("nodes %d and %d are equal: %s", i, j, dump(q))
				}
			}
		}
	}
}

// TestP4_8_CanonOfCanon: a canonical form is its own one.
func TestP4_8_CanonOfCanon(t *testing.T) {
	random := rand.New(rand.NewSource(48))
	for range 5000 {
		q, _, e := lang.Canon(randomProgram(t, random))
		if e != api.OK {
			t.Fatalf("Canon: error %d", e)
		}
		numbers := make([]int, len(q.Nodes))
		for i := range numbers {
			numbers[i] = i
		}
		expectCanon(t, q, q, numbers)
	}
}

// TestP4_2_Same: each part counts, also in programs that are not valid.
func TestP4_2_Same(t *testing.T) {
	all := []func(p *api.Prog){
		func(p *api.Prog) { p.Formats[1].E = 6 },
		func(p *api.Prog) { p.Formats[0].P = 25 },
		func(p *api.Prog) { p.Formats = p.Formats[:1] },
		func(p *api.Prog) { p.Mode = 9 },
		func(p *api.Prog) { p.Inputs[0].Format = 1 },
		func(p *api.Prog) { p.Inputs[0].Lo = "" },
		func(p *api.Prog) { p.Inputs[1].Hi = "10/2" },
		func(p *api.Prog) { p.Inputs = nil },
		func(p *api.Prog) { p.Nodes[7].Op++ },
		func(p *api.Prog) { p.Nodes[7].A-- },
		func(p *api.Prog) { p.Nodes[7].B-- },
		func(p *api.Prog) { p.Nodes[7].C-- },
		func(p *api.Prog) { p.Nodes[7].D-- },
		func(p *api.Prog) { p.Nodes[7].Format++ },
		func(p *api.Prog) { p.Nodes[7].Value = "1" },
		func(p *api.Prog) { p.Nodes = append(p.Nodes, api.Node{}) },
		func(p *api.Prog) { p.Head++ },
		func(p *api.Prog) { p.Tail-- },
		func(p *api.Prog) { p.States[1].Init = -3 },
		func(p *api.Prog) { p.States[1].Next = -3 },
		func(p *api.Prog) { p.States = append(p.States, api.State{}) },
		func(p *api.Prog) { p.Result = -3 },
	}
	for i, edit := range all {
		p, q := sample(t), sample(t)
		if !lang.Same(p, q) || !lang.Same(p, p) {
			t.Errorf("the sample is not the same")
		}
		edit(&q)
		if lang.Same(p, q) || lang.Same(q, p) {
			t.Errorf("edit %d makes no difference", i)
		}
		edit(&p)
		if !lang.Same(p, q) {
			t.Errorf("after the edit %d both are not the same", i)
		}
	}
	empty := api.Prog{Formats: []api.Format{}, Inputs: []api.Input{}, Nodes: []api.Node{}, States: []api.State{}}
	if !lang.Same(empty, api.Prog{}) || !lang.Same(api.Prog{}, empty) {
		t.Errorf("empty lists are not the same as none")
	}
}
