package run_test

import (
	"fmt"
	"slices"
	"strings"
	"testing"

	"vernier/api"
	"vernier/exact"
	"vernier/lang"
)

// The programs of the chapter's examples, and others that tests share.
const (
	newton = "format s 8 24; input x : s from 1 to 2; state t : s = x; loop; next t = (t + x / t) / 2; end; result t"
	half   = "format h 5 11; input x : h from 0 to 1; let a : h = x + 1; let b : h = a - 1; result b"
)

// program parses lines that end with semicolons.
func program(t testing.TB, text string) api.Prog {
	t.Helper()
	p, line, e := lang.Parse(strings.ReplaceAll(text, ";", "\n") + "\n")
	if e != api.OK {
		t.Fatalf("line %d has the error %d: %s", line, e, text)
	}
	return p
}

// single parses lines between a format s (8, 24) and the result r.
func single(t testing.TB, lines string) api.Prog {
	t.Helper()
	return program(t, "format s 8 24; "+lines+"; result r")
}

func number(t testing.TB, text api.Rat) exact.Num {
	t.Helper()
	x, e := exact.Parse(text)
	if e != api.OK {
		t.Fatalf("%.60q: error %d", text, e)
	}
	return x
}

// rats returns the words of a text.
func rats(text string) []api.Rat {
	var out []api.Rat
	for _, word := range strings.Fields(text) {
		out = append(out, api.Rat(word))
	}
	return out
}

// list reads nodes such as "2; root 0; 1 mul 1": a number, a kind and a node, or a
// kind between two nodes.
func list(t testing.TB, text string) []api.RlNode {
	t.Helper()
	kinds := map[string]int{
		"neg": api.RlNeg, "abs": api.RlAbs, "root": api.RlRoot, "add": api.RlAdd, "sub": api.RlSub,
		"mul": api.RlMul, "quo": api.RlQuo, "min": api.RlMin, "max": api.RlMax,
	}
	var out []api.RlNode
	for part := range strings.SplitSeq(text, ";") {
		var x api.RlNode
		words := strings.Fields(part)
		switch len(words) {
		case 0:
			continue
		case 1:
			x = api.RlNode{Kind: api.RlNum, Val: api.Rat(words[0])}
		case 2:
			x.Kind = kinds[words[0]]
			fmt.Sscan(words[1], &x.A)
		case 3:
			x.Kind = kinds[words[1]]
			fmt.Sscan(words[0], &x.A)
			fmt.Sscan(words[2], &x.B)
		}
		if x.Kind == 0 {
			t.Fatalf("no node: %s", part)
		}
		out = append(out, x)
	}
	return out
}

// value is what Values tells, written shortly: node, step, value.
func value(v api.RnValue) string { return fmt.Sprint(v.Node, " ", v.Step, " ", v.Value) }

func valuesText(l []api.RnValue) string {
	var out []string
	for _, v := range l {
		out = append(out, value(v))
	}
	return strings.Join(out, "; ")
}

func fault(kind, node, step int) api.RnFault {
	return api.RnFault{Kind: kind, Node: node, Step: step}
}

var noFault api.RnFault

// expectNum expects a number, a fault and an error from Float.
func expectNum(t *testing.T, what string, want api.Rat, wantF api.RnFault, wantE api.Errno) func(exact.Num, api.RnFault, api.Errno) {
	return func(x exact.Num, f api.RnFault, e api.Errno) {
		t.Helper()
		if x.Text() != want || f != wantF || e != wantE {
			t.Errorf("%s: %.80s, fault %v, error %d, want %.80s, fault %v, error %d", what, x.Text(), f, e, want, wantF, wantE)
		}
	}
}

// expectReal expects a list, a node, a fault and an error from Real.
func expectReal(t *testing.T, what, want string, wantAt int, wantF api.RnFault, wantE api.Errno) func([]api.RlNode, int, api.RnFault, api.Errno) {
	return func(l []api.RlNode, at int, f api.RnFault, e api.Errno) {
		t.Helper()
		if !slices.Equal(l, list(t, want)) || at != wantAt || f != wantF || e != wantE {
			t.Errorf("%s: %.400v, node %d, fault %v, error %d, want %.400s, node %d, fault %v, error %d", what, l, at, f, e, want, wantAt, wantF, wantE)
		}
	}
}

// expectEvents expects events, written as in "3 2 0 0; 1 4 0 11".
func expectEvents(t *testing.T, what, want string) func([]api.RnEvent, api.Errno) {
	return func(l []api.RnEvent, e api.Errno) {
		t.Helper()
		var out []string
		for _, x := range l {
			out = append(out, strings.Trim(fmt.Sprint(x), "{}"))
		}
		if text := strings.Join(out, "; "); text != want || e != api.OK {
			t.Errorf("%s: events %s, error %d, want %s", what, text, e, want)
		}
	}
}
