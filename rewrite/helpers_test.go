package rewrite_test

import (
	"fmt"
	"math/big"
	"slices"
	"strings"
	"testing"

	"vernier/api"
	"vernier/exact"
	"vernier/lang"
	"vernier/rewrite"
)

// square is the program of the chapter's examples.
const square = "format h 5 11; input x : h from 1 to 2; let a : h = x * x; let b : h = a - x; result b"

// program parses lines that end with semicolons.
func program(t testing.TB, text string) api.Prog {
	t.Helper()
	p, line, e := lang.Parse(strings.ReplaceAll(text, ";", "\n") + "\n")
	if e != api.OK {
		t.Fatalf("line %d has the error %d: %s", line, e, text)
	}
	return p
}

// inputs are the formats and the inputs that many tests share.
const inputs = "format s 8 24; format h 5 11; input x : s from 1 to 2; input y : s from 0.5 to 3; input z : s from -1 to 1; input w : h from 0 to 4; "

// with parses lines after the inputs.
func with(t testing.TB, lines string) api.Prog {
	t.Helper()
	return program(t, inputs+lines)
}

// expression returns the program with an expression in the format s as its result.
func expression(t testing.TB, e string) api.Prog {
	t.Helper()
	return with(t, "let r : s = "+e+"; result r")
}

// canon returns the canonical form.
func canon(t testing.TB, p api.Prog) api.Prog {
	t.Helper()
	q, _, e := lang.Canon(p)
	if e != api.OK {
		t.Fatalf("Canon: error %d: %+v", e, p)
	}
	return q
}

// names are the names of the rules, from number 1 on.
var names = strings.Fields("add-swap mul-swap add-right add-left mul-right mul-left spread gather sub-spread sub-gather " +
	"sub-add add-sub neg-neg neg-mul double squares sub-same add-back sub-left add-zero mul-one fuse unfuse " +
	"div-spread div-gather mul-div div-div root-same root-square root-mul conjugate abs-same " +
	"min-left min-right max-left max-right sel-then sel-else cast fold")

// ruleNamed returns the number of a rule, by the chapter's table.
func ruleNamed(t testing.TB, name string) int {
	t.Helper()
	i := slices.Index(names, name)
	if i < 0 {
		t.Fatalf("no rule has the name %s", name)
	}
	return i + 1
}

// step returns a step by the name of a rule.
func step(t testing.TB, name string, node int) api.RwStep {
	t.Helper()
	return api.RwStep{Rule: ruleNamed(t, name), Node: node}
}

// steps reads steps such as "mul-swap 1, sub-add 2".
func steps(t testing.TB, text string) []api.RwStep {
	t.Helper()
	var out []api.RwStep
	for part := range strings.SplitSeq(text, ",") {
		var name string
		var node int
		if n, _ := fmt.Sscan(part, &name, &node); n == 2 {
			out = append(out, step(t, name, node))
		}
	}
	return out
}

// stepsText writes steps as steps reads them.
func stepsText(l []api.RwStep) string {
	var out []string
	for _, s := range l {
		name := fmt.Sprint("rule ", s.Rule)
		if s.Rule >= 1 && s.Rule <= len(names) {
			name = names[s.Rule-1]
		}
		out = append(out, fmt.Sprint(name, " ", s.Node))
	}
	return strings.Join(out, ", ")
}

// text writes the text of a program, or what it is if it has none.
func text(p api.Prog) string {
	s, e := lang.Print(p)
	if e != api.OK {
		return dump(p)
	}
	return strings.ReplaceAll(s, "\n", "; ")
}

// expectProgram expects a canonical form, or an error.
func expectProgram(t *testing.T, what string, want api.Prog, wantE api.Errno) func(api.Prog, api.Errno) {
	return func(q api.Prog, e api.Errno) {
		t.Helper()
		if wantE != api.OK {
			want = api.Prog{}
		}
		if !lang.Same(q, want) || e != wantE {
			t.Errorf("%s: %.900s, error %d, want %.900s, error %d", what, text(q), e, text(want), wantE)
		}
	}
}

// expectSteps expects steps, written as steps reads them, or an error.
func expectSteps(t *testing.T, what, want string, wantE api.Errno) func([]api.RwStep, api.Errno) {
	return func(l []api.RwStep, e api.Errno) {
		t.Helper()
		if got := stepsText(l); got != want || e != wantE {
			t.Errorf("%s: %.900s, error %d, want %.900s, error %d", what, got, e, want, wantE)
		}
	}
}

// expectReplay expects what Replay returns.
func expectReplay(t *testing.T, what string, want api.Prog, wantStep int, wantE api.Errno) func(api.Prog, int, api.Errno) {
	return func(q api.Prog, step int, e api.Errno) {
		t.Helper()
		if step != wantStep {
			t.Errorf("%s: the step %d, want %d", what, step, wantStep)
		}
		expectProgram(t, what, want, wantE)(q, e)
	}
}

// expectPrograms expects a list of programs, or an error.
func expectPrograms(t *testing.T, what string, want []api.Prog, wantE api.Errno) func([]api.Prog, api.Errno) {
	return func(l []api.Prog, e api.Errno) {
		t.Helper()
		if len(l) != len(want) || e != wantE {
			t.Errorf("%s: %d programs, error %d, want %d, error %d", what, len(l), e, len(want), wantE)
			return
		}
		for i := range l {
			expectProgram(t, fmt.Sprint(what, ", program ", i), want[i], api.OK)(l[i], api.OK)
		}
	}
}

// expectPath expects steps, written as steps reads them, and whether there are any, or an
// error.
func expectPath(t *testing.T, what, want string, wantFound bool, wantE api.Errno) func([]api.RwStep, bool, api.Errno) {
	return func(l []api.RwStep, found bool, e api.Errno) {
		t.Helper()
		if got := stepsText(l); got != want || found != wantFound || e != wantE {
			t.Errorf("%s: %.900s, %v, error %d, want %.900s, %v, error %d", what, got, found, e, want, wantFound, wantE)
		}
	}
}

// expectBest expects a program, steps to it and its bound, or an error.
func expectBest(t *testing.T, what string, want api.Prog, wantSteps string, wantBound api.Rat, wantE api.Errno) func(api.Prog, []api.RwStep, api.Rat, api.Errno) {
	return func(q api.Prog, l []api.RwStep, bound api.Rat, e api.Errno) {
		t.Helper()
		if bound != wantBound {
			t.Errorf("%s: the bound %.200s, want %.200s", what, bound, wantBound)
		}
		expectSteps(t, what, wantSteps, wantE)(l, e)
		expectProgram(t, what, want, wantE)(q, e)
	}
}

// apply applies a step that has no error.
func apply(t testing.TB, p api.Prog, s api.RwStep) api.Prog {
	t.Helper()
	q, e := rewrite.Apply(p, s)
	if e != api.OK {
		t.Fatalf("%s: error %d", stepsText([]api.RwStep{s}), e)
	}
	return q
}

func number(t testing.TB, text api.Rat) exact.Num {
	t.Helper()
	x, e := exact.Parse(text)
	if e != api.OK {
		t.Fatalf("%.60q: error %d", text, e)
	}
	return x
}

func toRat(text api.Rat) *big.Rat {
	x, is := new(big.Rat).SetString(string(text))
	if !is {
		panic("no number: " + string(text))
	}
	return x
}

func toText(x *big.Rat) api.Rat { return api.Rat(x.RatString()) }

// digits returns the least number with so many digits.
func digits(count int) string { return "1" + strings.Repeat("0", count-1) }

// dump writes all parts of values; those that are equal have the same dump.
func dump(values ...any) string { return fmt.Sprintf("%+v", values) }
