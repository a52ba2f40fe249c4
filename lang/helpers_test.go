package lang_test

import (
	"fmt"
	"slices"
	"strconv"
	"strings"
	"testing"

	"vernier/api"
	"vernier/lang"
)

// words are the words of the tests for operations.
var words = map[string]int{
	"input": api.OpInput, "state": api.OpState, "const": api.OpConst,
	"neg": api.OpNeg, "abs": api.OpAbs, "sqrt": api.OpSqrt, "cast": api.OpCast,
	"add": api.OpAdd, "sub": api.OpSub, "mul": api.OpMul, "div": api.OpDiv, "min": api.OpMin, "max": api.OpMax,
	"fma": api.OpFma, "sel": api.OpSel,
}

// operandCounts has how many operands are nodes, by operations.
var operandCounts = map[int]int{
	api.OpNeg: 1, api.OpAbs: 1, api.OpSqrt: 1, api.OpCast: 1,
	api.OpAdd: 2, api.OpSub: 2, api.OpMul: 2, api.OpDiv: 2, api.OpMin: 2, api.OpMax: 2,
	api.OpFma: 3, api.OpSel: 4,
}

// nodes reads nodes such as "input 0; const 1/3; add@1 0 1": a word, the format
// behind @ (without it 0), and the operands, or the value.
func nodes(t testing.TB, text string) []api.Node {
	t.Helper()
	var out []api.Node
	for part := range strings.SplitSeq(text, ";") {
		fields := strings.Fields(part)
		if len(fields) == 0 {
			continue
		}
		word, format, _ := strings.Cut(fields[0], "@")
		n := api.Node{Op: words[word]}
		if n.Op == 0 {
			t.Fatalf("no operation: %s", part)
		}
		if format != "" {
			n.Format = integer(t, format)
		}
		for i, field := range fields[1:] {
			if n.Op == api.OpConst {
				n.Value = api.Rat(field)
				continue
			}
			*[...]*int{&n.A, &n.B, &n.C, &n.D}[i] = integer(t, field)
		}
		out = append(out, n)
	}
	return out
}

func integer(t testing.TB, text string) int {
	t.Helper()
	n, err := strconv.Atoi(text)
	if err != nil {
		t.Fatal(err)
	}
	return n
}

// The formats and the inputs of drafts: one input of each format.
var (
	twoFormats = []api.Format{{E: 8, P: 24}, {E: 5, P: 11}}
	twoInputs  = []api.Input{{Format: 0, Lo: "-1", Hi: "3/2"}, {Format: 1, Lo: "0", Hi: "5"}}
)

// draft returns a program with both formats and both inputs, the nodes of its
// sections as nodes reads them, states (Init and Next, as in "0 5; 1 1"), and its
// result. Without states it has a head alone.
func draft(t testing.TB, head, body, rest, states string, result int) api.Prog {
	t.Helper()
	p := api.Prog{Formats: slices.Clone(twoFormats), Inputs: slices.Clone(twoInputs), Result: result}
	p.Nodes = nodes(t, head)
	p.Head = len(p.Nodes)
	p.Nodes = append(p.Nodes, nodes(t, body)...)
	p.Tail = len(p.Nodes)
	p.Nodes = append(p.Nodes, nodes(t, rest)...)
	for part := range strings.SplitSeq(states, ";") {
		if fields := strings.Fields(part); len(fields) == 2 {
			p.States = append(p.States, api.State{Init: integer(t, fields[0]), Next: integer(t, fields[1])})
		}
	}
	if len(p.States) == 0 {
		p.Head, p.Tail = len(p.Nodes), len(p.Nodes)
	}
	return p
}

// clone returns a program with memory of its own.
func clone(p api.Prog) api.Prog {
	p.Formats = slices.Clone(p.Formats)
	p.Inputs = slices.Clone(p.Inputs)
	p.Nodes = slices.Clone(p.Nodes)
	p.States = slices.Clone(p.States)
	return p
}

// dump writes all parts of a program; those that are equal have the same dump.
func dump(p api.Prog) string { return fmt.Sprintf("%+v", p) }

func isZero(p api.Prog) bool { return dump(p) == dump(api.Prog{}) }

// valid stops the test if a program has an error.
func valid(t testing.TB, p api.Prog) api.Prog {
	t.Helper()
	if part, at, e := lang.Check(p); e != api.OK {
		t.Fatalf("part %d, %d has the error %d: %s", part, at, e, dump(p))
	}
	return p
}

// lines puts each part of a text, which end with semicolons, on a line.
func lines(text string) string { return strings.ReplaceAll(text, ";", "\n") }

// program parses a text as lines reads it.
func program(t testing.TB, text string) api.Prog {
	t.Helper()
	p, line, e := lang.Parse(lines(text))
	if e != api.OK {
		t.Fatalf("line %d has the error %d: %s", line, e, text)
	}
	return valid(t, p)
}

func expectProg(t *testing.T, what string, want api.Prog, wantE api.Errno) func(api.Prog, api.Errno) {
	return func(p api.Prog, e api.Errno) {
		t.Helper()
		if dump(p) != dump(want) || e != wantE {
			t.Errorf("%s: error %d\n%s\nwant error %d\n%s", what, e, dump(p), wantE, dump(want))
		}
	}
}

func expectCheck(t *testing.T, what string, wantPart, wantAt int, wantE api.Errno) func(part, at int, e api.Errno) {
	return func(part, at int, e api.Errno) {
		t.Helper()
		if part != wantPart || at != wantAt || e != wantE {
			t.Errorf("%s: %d, %d, error %d, want %d, %d, error %d", what, part, at, e, wantPart, wantAt, wantE)
		}
	}
}

// expectParse expects that a text is not parsed.
func expectParse(t *testing.T, text string, wantLine int, wantE api.Errno) {
	t.Helper()
	p, line, e := lang.Parse(text)
	if line != wantLine || e != wantE || !isZero(p) {
		t.Errorf("%.200q: line %d, error %d, want line %d, error %d", text, line, e, wantLine, wantE)
	}
}
