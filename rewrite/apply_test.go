package rewrite_test

import (
	"fmt"
	"math"
	"strings"
	"testing"

	"vernier/api"
	"vernier/lang"
	"vernier/rewrite"
)

// rewriting is a step, the lines of a program before it, and those after it. The inputs are
// the nodes 0 to 3.
type rewriting struct{ step, before, after string }

func expectRewriting(t *testing.T, x rewriting) {
	t.Helper()
	want := canon(t, with(t, x.after))
	expectProgram(t, x.step+": "+x.before, want, api.OK)(rewrite.Apply(with(t, x.before), steps(t, x.step)[0]))
}

// TestP9_2_Formats: new nodes have the format of the node. Letters may be any nodes, also the
// same ones, and those of other formats; so may the operands that a pattern names. A letter
// alone is cast, if it has not the format of the node.
func TestP9_2_Formats(t *testing.T) {
	for _, x := range []rewriting{
		{"add-right 5", "let a : s = x + x; let r : s = a + x; result r", "let a : s = x + x; let r : s = x + a; result r"},
		{"add-right 5", "let a : h = x + y; let r : s = a + w; result r", "let a : s = y + w; let r : s = x + a; result r"},
		{"add-left 5", "let a : s = x + w; let r : h = y + a; result r", "let a : h = y + x; let r : h = a + w; result r"},
		{"spread 6", "let c : h = 1; let a : h = w + c; let r : s = a * a; result r", "let c : h = 1; let a : h = w + c; let d : s = a * w; let e : s = a * c; let r : s = d + e; result r"},
		{"squares 6", "let a : h = x * x; let b : s = w * w; let r : s = a - b; result r", "let r : s = (x - w) * (x + w); result r"},
		{"double 4", "let r : s = w + w; result r", "let r : s = 2 * w; result r"},
		{"double 5", "let c : h = 2; let a : s = w + w; let r : h = a * c; result r", "let c : h = 2; let a : s = 2 * w; let r : h = a * c; result r"},
		{"sub-same 4", "let r : s = w - w; result r", "let r : s = 0; result r"},
		{"sub-same 5", "let a : h = 0; let b : h = w - w; let r : h = a * b; result r", "let a : h = 0; let r : h = a * a; result r"},
		{"root-same 6", "let a : h = sqrt(w); let b : s = sqrt(w); let r : h = a * b; result r", "result w"},
		{"root-same 6", "let a : h = sqrt(w); let b : s = sqrt(w); let r : s = a * b; result r", "let r : s = s(w); result r"},
		{"add-back 5", "let a : h = w + x; let r : h = a - w; result r", "let r : h = h(x); result r"},
		{"add-zero 5", "let a : h = 0; let r : s = x + a; result r", "result x"},
		{"add-zero 5", "let a : s = 0; let r : h = x + a; result r", "let r : h = h(x); result r"},
		{"mul-one 5", "let a : h = 1; let b : s = w * a; let r : s = b - a; result r", "let a : h = 1; let b : s = s(w); let r : s = b - a; result r"},
		{"cast 5", "let a : h = h(x); let r : s = s(a); result r", "let a : h = h(x); let r : s = s(a); result r"},
		{"cast 4", "let a : s = s(w); let r : s = a + x; result r", "let a : s = s(w); let r : s = a + x; result r"},
		{"cast 4", "let a : s = s(x); let r : h = a + x; result r", "let r : h = x + x; result r"},
		{"neg-neg 5", "let a : h = - x; let b : h = - a; let r : h = a * b; result r", "let a : h = - x; let b : h = h(x); let r : h = a * b; result r"},
		{"min-left 4", "let r : h = min(z, x); result r", "let r : h = h(z); result r"},
		{"sel-then 4", "let r : s = if z <= x then w else z; result r", "let r : s = s(w); result r"},
		{"conjugate 6", "let a : h = sqrt(x); let b : h = sqrt(y); let d : s = a - b; let r : s = d * a; result r",
			"let a : h = sqrt(x); let n : s = x - y; let c : s = sqrt(x); let d : s = sqrt(y); let e : s = c + d; let f : s = n / e; let r : s = f * a; result r"},
		{"fold 6", "let a : h = 0.5; let b : s = 3; let r : h = a - b; result r", "let r : h = {-5/2}; result r"},
	} {
		expectRewriting(t, x)
	}
}

// TestP9_2_Places: new nodes take the place of the node; what nothing has as an operand any
// more is gone, and equal nodes become one.
func TestP9_2_Places(t *testing.T) {
	for _, x := range []rewriting{
		// x + y is still an operand, and behind it come the new nodes.
		{"add-right 5", "let a : s = x + y; let c : s = a + z; let b : s = a * c; result b", "let a : s = x + y; let d : s = y + z; let c : s = x + d; let b : s = a * c; result b"},
		// y + z is there behind the new one, which comes to stand for both; or before it.
		{"add-right 5", "let a : s = x + y; let c : s = a + z; let b : s = y + z; let r : s = b * c; result r", "let b : s = y + z; let c : s = x + b; let r : s = b * c; result r"},
		{"add-right 6", "let b : s = y + z; let a : s = x + y; let c : s = a + z; let r : s = b * c; result r", "let b : s = y + z; let c : s = x + b; let r : s = b * c; result r"},
		// Nodes with the new one as an operand become equal, too.
		{"add-swap 4", "let a : s = x + y; let b : s = y + x; let c : s = - a; let d : s = - b; let r : s = c * d; result r", "let a : s = y + x; let c : s = - a; let r : s = c * c; result r"},
		{"mul-one 5", "let a : s = x * 1; let b : s = a - x; let r : s = b / a; result r", "let b : s = x - x; let r : s = b / x; result r"},
		// The node is an operand three times; it is an operand, and the result.
		{"neg-neg 5", "let a : s = - x; let b : s = - a; let r : s = fma(b, b, b); result r", "let r : s = fma(x, x, x); result r"},
		{"sub-add 4", "let a : s = x - y; result a", "let a : s = x + (- y); result a"},
		{"squares 6", "let r : s = (x * x - y * y) / (x * x); result r", "let d : s = x * x; let a : s = x - y; let b : s = x + y; let c : s = a * b; let r : s = c / d; result r"},
		{"sel-then 7", "let c : s = x / 3; let d : s = y / 3; let r : s = if z <= x then c else d; result r", "let c : s = x / 3; result c"},
		{"fold 6", "let a : s = 2; let b : s = 3; let c : s = a * b; let d : s = 6; let r : s = if x <= c then d else b; result r", "let b : s = 3; let c : s = 6; let r : s = if x <= c then c else b; result r"},
	} {
		expectRewriting(t, x)
	}
}

// TestP9_2_Canonical: nodes have the numbers that they have in the canonical form.
func TestP9_2_Canonical(t *testing.T) {
	p := with(t, "let u : s = x / y; let a : s = x + y; let b : s = x + y; let v : s = b * b; let r : s = a * b; result r")
	expectProgram(t, "add-swap 4", canon(t, with(t, "let a : s = y + x; let r : s = a * a; result r")), api.OK)(rewrite.Apply(p, step(t, "add-swap", 4)))
	expectProgram(t, "mul-swap 5", canon(t, p), api.OK)(rewrite.Apply(p, step(t, "mul-swap", 5)))
	expectProgram(t, "mul-swap 6", p, api.ErrRange)(rewrite.Apply(p, step(t, "mul-swap", 6)))
	expectProgram(t, "mul-swap 4", p, rewrite.ErrMatch)(rewrite.Apply(p, step(t, "mul-swap", 4)))
	// The node of the input that is not needed is there.
	q := program(t, "format s 8 24; input x : s from 0 to 1; input y : s from 0 to 1; let r : s = y + y; result r")
	expectProgram(t, "double", program(t, "format s 8 24; input x : s from 0 to 1; input y : s from 0 to 1; let r : s = 2 * y; result r"), api.OK)(rewrite.Apply(q, step(t, "double", 2)))
}

// Programs of loops: in the second one nothing needs the state.
const (
	loop     = "format s 8 24; input x : s from 1 to 2; state t : s = x; loop; next t = t / 2; end; let r : s = t + t; result r"
	idleLoop = "format s 8 24; input x : s from 1 to 2; state t : s = x; loop; next t = t / 2; end; let r : s = x + x; result r"
)

// tooManyInputs returns a valid program whose canonical form has too many nodes: those of all
// inputs, too.
func tooManyInputs() api.Prog {
	p := api.Prog{Formats: []api.Format{{E: 8, P: 24}}, Inputs: []api.Input{{Lo: "0", Hi: "1"}}, Head: api.MaxNodes, Tail: api.MaxNodes, Result: api.MaxNodes - 1}
	p.Nodes = []api.Node{{Op: api.OpConst, Value: "1"}}
	for i := range api.MaxNodes - 1 {
		p.Nodes = append(p.Nodes, api.Node{Op: api.OpNeg, A: i})
	}
	return p
}

// TestP9_2_Errors: each error, and which one comes first.
func TestP9_2_Errors(t *testing.T) {
	if rewrite.ErrState != 190 || rewrite.ErrMatch != 191 || rewrite.ErrSide != 192 {
		t.Errorf("the errors of the layer are %d, %d and %d", rewrite.ErrState, rewrite.ErrMatch, rewrite.ErrSide)
	}
	p := with(t, "let a : s = abs(z); let r : s = a + x; result r")
	invalid := p
	invalid.Mode = 5
	wrong := p
	wrong.Result = -1
	far := api.RwStep{Rule: 41, Node: -1}
	for _, x := range []struct {
		what string
		p    api.Prog
		s    api.RwStep
		e    api.Errno
	}{
		{"no program", api.Prog{}, far, api.ErrArg},
		{"no mode", invalid, far, api.ErrArg},
		{"no result", wrong, far, api.ErrRange},
		{"too many inputs", tooManyInputs(), far, api.ErrLong},
		{"a state", program(t, loop), far, rewrite.ErrState},
		{"a state", program(t, loop), step(t, "double", 1), rewrite.ErrState},
		{"a state that is not needed", program(t, idleLoop), far, api.ErrRange},
		{"a state that is not needed", program(t, idleLoop), step(t, "double", 1), api.OK},
		{"rule 0", p, api.RwStep{Rule: 0, Node: 5}, api.ErrRange},
		{"rule -1", p, api.RwStep{Rule: -1, Node: 5}, api.ErrRange},
		{"rule 41", p, api.RwStep{Rule: 41, Node: 5}, api.ErrRange},
		{"the greatest rule", p, api.RwStep{Rule: math.MaxInt, Node: 5}, api.ErrRange},
		{"the least rule", p, api.RwStep{Rule: math.MinInt, Node: 5}, api.ErrRange},
		{"node -1", p, step(t, "add-swap", -1), api.ErrRange},
		{"node 6", p, step(t, "add-swap", 6), api.ErrRange},
		{"the greatest node", p, step(t, "add-swap", math.MaxInt), api.ErrRange},
		{"the least node", p, step(t, "add-swap", math.MinInt), api.ErrRange},
		{"an input", p, step(t, "add-swap", 0), rewrite.ErrMatch},
		{"another operation", p, step(t, "mul-swap", 5), rewrite.ErrMatch},
		{"a condition", p, step(t, "abs-same", 4), rewrite.ErrSide},
		{"nothing", p, step(t, "add-swap", 5), api.OK},
	} {
		q, e := rewrite.Apply(x.p, x.s)
		if e != x.e || e != api.OK && !lang.Same(q, api.Prog{}) {
			t.Errorf("%s: error %d, want %d", x.what, e, x.e)
		}
	}
}

// TestP9_2_Long: there may be as many nodes as in any program while a step is done, and no
// more, even if they become less after it.
func TestP9_2_Long(t *testing.T) {
	long := func(nodes int, e string) api.Prog {
		p := canon(t, expression(t, e))
		for len(p.Nodes) < nodes {
			p.Nodes = append(p.Nodes, api.Node{Op: api.OpNeg, A: len(p.Nodes) - 1})
		}
		p.Head, p.Tail, p.Result = nodes, nodes, nodes-1
		return p
	}
	for _, x := range []struct {
		rule, expression string
		at, more         int // how many nodes more there are for a while
	}{
		{"add-swap", "x + y", 4, 0},
		{"neg-neg", "- (- x)", 5, -1},
		{"fold", "2 + 3", 6, 0},
		{"sub-add", "x - y", 4, 1},
		{"gather", "x * y + x * z", 6, 1},
		{"add-right", "(x + y) + z", 5, 1},
		{"spread", "x * (y + z)", 5, 2},
		{"squares", "x * x - y * y", 6, 2},
		{"conjugate", "sqrt(x) - sqrt(y)", 6, 4},
	} {
		for _, nodes := range []int{api.MaxNodes, api.MaxNodes - 1, api.MaxNodes - 2, api.MaxNodes - 3, api.MaxNodes - 4, api.MaxNodes - 5} {
			p := long(nodes, x.expression)
			want := api.OK
			if nodes+x.more > api.MaxNodes {
				want = api.ErrLong
			}
			if _, e := rewrite.Apply(p, step(t, x.rule, x.at)); e != want {
				t.Errorf("%s with %d nodes: error %d, want %d", x.rule, nodes, e, want)
			}
		}
	}
	// A condition comes before the limit, and the pattern before the condition.
	p := long(api.MaxNodes, "sqrt(w) - sqrt(w)")
	expectProgram(t, "conjugate", p, rewrite.ErrSide)(rewrite.Apply(p, step(t, "conjugate", 5)))
	expectProgram(t, "add-right", p, rewrite.ErrMatch)(rewrite.Apply(p, step(t, "add-right", 5)))
}

// TestP9_2_Conditions: where side conditions hold, up to the ends of ranges, and where they do
// not, also because there is no range.
func TestP9_2_Conditions(t *testing.T) {
	for _, x := range []struct{ expression, holds, fails string }{
		{"abs(x)", "abs-same", ""},
		{"abs(w)", "abs-same", ""}, // from 0 on
		{"abs(z)", "", "abs-same"},
		{"abs(0 - w)", "", "abs-same"},
		{"abs(1 / z)", "", "abs-same"},
		{"abs(sqrt(z))", "", "abs-same"},
		// By affine forms this is 0, by intervals it is from -1 to 1.
		{"abs(x - x)", "abs-same", ""},
		// By monotony from 0 to 2, by all else also below 0.
		{"abs(x * x - x)", "abs-same", ""},
		{"abs(z * z)", "", "abs-same"},
		{"min(z, x)", "min-left", "min-right"}, // up to 1, from 1 on
		{"min(x, z)", "min-right", "min-left"},
		{"max(z, x)", "max-right", "max-left"},
		{"max(x, z)", "max-left", "max-right"},
		{"min(z + 0.1, x)", "", "min-left, min-right"},
		{"min(x, z + 0.1)", "", "min-left, min-right"},
		{"max(z + 0.1, x)", "", "max-left, max-right"},
		{"max(x, z + 0.1)", "", "max-left, max-right"},
		{"min(z, z)", "", "min-left, min-right"},
		{"min(3, 3)", "min-left, min-right", ""},
		{"max(3, 3)", "max-left, max-right", ""},
		{"min(2, 3)", "min-left", "min-right"},
		{"max(2, 3)", "max-right", "max-left"},
		{"min(1 / z, x)", "", "min-left, min-right"},
		{"min(z, sqrt(z))", "", "min-left, min-right"},
		{"max(1 / z, x)", "", "max-left, max-right"},
		{"max(z, sqrt(z))", "", "max-left, max-right"},
		{"if z <= x then y else w", "sel-then", "sel-else"},
		{"if x <= z then y else w", "", "sel-then, sel-else"}, // from 1 on, up to 1
		{"if x + 0.1 <= z then y else w", "sel-else", "sel-then"},
		{"if z + 0.1 <= x then y else w", "", "sel-then, sel-else"},
		{"if x <= x then y else w", "", "sel-then, sel-else"},
		{"if 1 <= 1 then y else w", "sel-then", "sel-else"},
		{"if 2 <= 1 then y else w", "sel-else", "sel-then"},
		{"if z <= x then 1 / z else sqrt(z)", "sel-then", "sel-else"},
		{"if x + 1 <= z then 1 / z else sqrt(z)", "sel-else", "sel-then"},
		{"if 1 / z <= x then y else w", "", "sel-then, sel-else"},
		{"if x <= 1 / z then y else w", "", "sel-then, sel-else"},
		{"sqrt(x) - sqrt(w)", "conjugate", ""},
		{"sqrt(w) - sqrt(x)", "conjugate", ""},
		{"sqrt(w) - sqrt(w)", "", "conjugate"},
		{"sqrt(w) - sqrt(w * w)", "", "conjugate"},
		{"sqrt(w) - sqrt(w + 0.0001)", "conjugate", ""},
		{"sqrt(z) - sqrt(x)", "", "conjugate"},
		{"sqrt(x) - sqrt(z)", "", "conjugate"},
		{"sqrt(0) - sqrt(0)", "", "conjugate"},
		{"2 + 3", "fold", ""},
		{"2 / 0", "", "fold"},
	} {
		p := canon(t, expression(t, strings.ReplaceAll(x.expression, "w", "s(w)")))
		for _, s := range steps(t, strings.ReplaceAll(x.holds, ",", " 0,")+" 0") {
			s.Node = p.Result
			if _, e := rewrite.Apply(p, s); e != api.OK {
				t.Errorf("%s at %s: error %d", rewrite.Name(s.Rule), x.expression, e)
			}
		}
		for _, s := range steps(t, strings.ReplaceAll(x.fails, ",", " 0,")+" 0") {
			s.Node = p.Result
			expectProgram(t, rewrite.Name(s.Rule)+" at "+x.expression, p, rewrite.ErrSide)(rewrite.Apply(p, s))
		}
	}
}

// TestP9_2_OwnBox: the ranges are those over the program's own box.
func TestP9_2_OwnBox(t *testing.T) {
	p := with(t, "let r : s = abs(z); result r")
	q, e := lang.Box(p, []api.Rat{"1", "1", "0", "0"}, []api.Rat{"1", "1", "1/2", "0"})
	if e != api.OK {
		t.Fatalf("Box: error %d", e)
	}
	expectProgram(t, "z from -1 on", p, rewrite.ErrSide)(rewrite.Apply(p, step(t, "abs-same", 4)))
	if _, e := rewrite.Apply(q, step(t, "abs-same", 4)); e != api.OK {
		t.Errorf("z from 0 on: error %d", e)
	}
}

// TestP9_2_Fold: the values of operations over the reals, where they are rational numbers.
func TestP9_2_Fold(t *testing.T) {
	long, tiny := digits(api.MaxDigits), "1/"+digits(api.MaxDigits)
	for _, x := range []struct {
		expression, value string
		e                 api.Errno
	}{
		{"- 3", "-3", api.OK},
		{"- {-1/3}", "1/3", api.OK},
		{"- 0", "0", api.OK},
		{"abs({-3/2})", "3/2", api.OK},
		{"abs({3/2})", "3/2", api.OK},
		{"sqrt({9/4})", "3/2", api.OK},
		{"sqrt(0)", "0", api.OK},
		{"sqrt(2)", "", rewrite.ErrSide},
		{"sqrt({4/3})", "", rewrite.ErrSide},
		{"sqrt({-4})", "", rewrite.ErrSide},
		{"s({1/3})", "1/3", api.OK}, // not rounded
		{"h({100000})", "100000", api.OK},
		{"{1/3} + {1/6}", "1/2", api.OK},
		{"{1/3} - {1/2}", "-1/6", api.OK},
		{"{2/3} * {9/4}", "3/2", api.OK},
		{"{2/3} / {-4/9}", "-3/2", api.OK},
		{"0 / 5", "0", api.OK},
		{"5 / 0", "", rewrite.ErrSide},
		{"0 / 0", "", rewrite.ErrSide},
		{"min({1/3}, {1/4})", "1/4", api.OK},
		{"max({1/3}, {1/4})", "1/3", api.OK},
		{"fma({1/2}, {1/3}, {-1/6})", "0", api.OK},
		{"fma(2, 3, 4)", "10", api.OK},
		{"if 1 <= 1 then 2 else 3", "2", api.OK},
		{"if 2 <= 1 then 2 else 3", "3", api.OK},
		{"if 1 <= 2 then 3 else x", "", rewrite.ErrMatch},
		{"if 1 <= x then 3 else 3", "", rewrite.ErrMatch},
		{"fma(2, x, 4)", "", rewrite.ErrMatch},
		{"fma(2, 4, x)", "", rewrite.ErrMatch},
		{"x * 2", "", rewrite.ErrMatch},
		{"2 * x", "", rewrite.ErrMatch},
		{"- x", "", rewrite.ErrMatch},
		{"x", "", rewrite.ErrMatch},
		{"2", "", rewrite.ErrMatch},
		{"- (- 3)", "", rewrite.ErrMatch},
		{"{" + long + "} * 1", long, api.OK},
		{"{" + long + "} * 9", "9" + long[1:], api.OK},
		{"{" + long + "} * 10", "", rewrite.ErrSide},
		{"{" + long + "} - 1", strings.Repeat("9", api.MaxDigits-1), api.OK},
		{"{" + tiny + "} / 9", "1/9" + long[1:], api.OK},
		{"{" + tiny + "} / 10", "", rewrite.ErrSide},
		{"{" + tiny + "} / {-1}", "-" + tiny, api.OK},
		{"{" + long + "} / {" + tiny + "}", "", rewrite.ErrSide},
		{"{" + long + "} * {" + tiny + "}", "1", api.OK},
		{"fma({" + long + "}, {" + long + "}, 1)", "", rewrite.ErrSide},
	} {
		line := "let r : s = " + x.expression + "; result r"
		if strings.HasPrefix(x.expression, "h") {
			line = strings.Replace(line, ": s", ": h", 1)
		}
		p := canon(t, with(t, line))
		want := p
		if x.e == api.OK {
			want = canon(t, expression(t, "{"+x.value+"}"))
			want.Nodes[want.Result].Format = p.Nodes[p.Result].Format
		}
		expectProgram(t, fmt.Sprintf("%.100s", x.expression), want, x.e)(rewrite.Apply(p, step(t, "fold", p.Result)))
	}
}
