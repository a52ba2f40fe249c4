package rewrite_test

import (
	"testing"

	"vernier/api"
	"vernier/rewrite"
)

// TestP9_Examples has the examples of the chapter.
func TestP9_Examples(t *testing.T) {
	p := program(t, square)
	expectProgram(t, "mul-swap", p, api.OK)(rewrite.Apply(p, api.RwStep{Rule: 2, Node: 1}))
	expectProgram(t, "add-swap", p, rewrite.ErrMatch)(rewrite.Apply(p, api.RwStep{Rule: 1, Node: 2}))
	q := program(t, "format h 5 11; input x : h from 1 to 2; let a : h = x * x; let b : h = - x; let c : h = a + b; result c")
	expectProgram(t, "sub-add", q, api.OK)(rewrite.Apply(p, api.RwStep{Rule: 11, Node: 2}))
	expectSteps(t, "Steps", "mul-swap 1, sub-add 2", api.OK)(rewrite.Steps(p))
	for _, x := range []struct {
		box string
		e   api.Errno
	}{{"1 to 2", api.OK}, {"-1 to 2", rewrite.ErrSide}} {
		before := program(t, "format h 5 11; input x : h from "+x.box+"; let a : h = abs(x); result a")
		after := program(t, "format h 5 11; input x : h from "+x.box+"; result x")
		expectProgram(t, "abs-same", after, x.e)(rewrite.Apply(before, api.RwStep{Rule: 32, Node: 1}))
	}
	roots := program(t, "format h 5 11; input x : h from 1 to 2; let r : h = sqrt(x + 1) - sqrt(x); result r")
	want := "format h 5 11; input x : h from 1 to 2; let a : h = 1; let b : h = x + a; let c : h = b - x;" +
		"let d : h = sqrt(b); let e : h = sqrt(x); let f : h = d + e; let g : h = c / f; result g"
	expectProgram(t, "conjugate", program(t, want), api.OK)(rewrite.Apply(roots, api.RwStep{Rule: 31, Node: 5}))
	if a, b := rewrite.Name(31), rewrite.Name(41); a != "conjugate" || b != "" {
		t.Errorf("Name: %q, %q", a, b)
	}
	expectProgram(t, "rule 41", p, api.ErrRange)(rewrite.Apply(p, api.RwStep{Rule: 41, Node: 1}))
	expectProgram(t, "node 3", p, api.ErrRange)(rewrite.Apply(p, api.RwStep{Rule: 1, Node: 3}))
	expectPrograms(t, "0 rounds", []api.Prog{p}, api.OK)(rewrite.Reach(p, 0, 5))
	// The third one is the sum after add-swap; mul-swap changes nothing.
	swapped := program(t, "format h 5 11; input x : h from 1 to 2; let a : h = x * x; let b : h = - x; let c : h = b + a; result c")
	expectPrograms(t, "2 rounds", []api.Prog{p, q, swapped}, api.OK)(rewrite.Reach(p, 2, 3))
}
