package tune_test

import (
	"fmt"
	"math/big"
	"strings"
	"testing"

	"vernier/api"
	"vernier/exact"
	"vernier/lang"
	"vernier/proofs"
)

// Programs that tests share: those of the chapter's examples, and of DOC.md's.
const (
	squareWide = "format h 5 11; format s 8 24; input x : s from 1 to 2; let a : s = x * x; result a"
	squareHalf = "format h 5 11; input x : h from 1 to 2; let a : h = x * x; result a"
	tiny       = "format f 2 3; input x : f from 0 to 3; let a : f = x * x; result a"
)

// program parses lines that end with semicolons.
func program(t testing.TB, text string) api.Prog {
	t.Helper()
	p, line, e := lang.Parse(strings.ReplaceAll(text, ";", "\n") + "\n")
	if e != api.OK {
		t.Fatalf("line %d has the error %d: %s", line, e, text)
	}
	return p
}

// integers reads integers.
func integers(text string) []int {
	var out []int
	for _, word := range strings.Fields(text) {
		var n int
		fmt.Sscan(word, &n)
		out = append(out, n)
	}
	return out
}

// rats returns the words of a text.
func rats(text string) []api.Rat {
	var out []api.Rat
	for _, word := range strings.Fields(text) {
		out = append(out, api.Rat(word))
	}
	return out
}

// task returns a task with a plan without splits.
func task(groups, costs string, budget api.Rat) api.TnTask {
	return api.TnTask{Groups: integers(groups), Costs: integers(costs), Budget: budget, Plan: api.BdPlan{Bits: 30}}
}

// example is the task T of the chapter's examples, for the program of squareWide.
func example(budget api.Rat) api.TnTask { return task("-1 0", "1 3", budget) }

// rowText writes a row: the assignment, the cost, and the error, after which is said whether
// it fits, or the fault.
func rowText(r api.TnRow) string {
	text := fmt.Sprint(strings.Trim(fmt.Sprint(r.Formats), "[]"), " costs ", r.Cost)
	if r.Fault != api.OK {
		text += fmt.Sprint(", fault ", r.Fault)
	}
	if r.Err != "" {
		text += fmt.Sprint(", error ", r.Err)
	}
	if r.Fits {
		text += ", fits"
	}
	return strings.TrimSpace(text)
}

const noRow = "costs 0"

func rowsText(l []api.TnRow) string {
	var out []string
	for _, r := range l {
		out = append(out, rowText(r))
	}
	return strings.Join(out, "; ")
}

// expectRow expects a row as rowText writes it, or an error.
func expectRow(t *testing.T, what, want string, wantE api.Errno) func(api.TnRow, api.Errno) {
	return func(r api.TnRow, e api.Errno) {
		t.Helper()
		if wantE != api.OK {
			want = noRow
		}
		if got := rowText(r); got != want || e != wantE {
			t.Errorf("%s: %.400s, error %d, want %.400s, error %d", what, got, e, want, wantE)
		}
	}
}

// expectTable expects rows as rowText writes them, or an error.
func expectTable(t *testing.T, what, want string, wantE api.Errno) func([]api.TnRow, api.Errno) {
	return func(l []api.TnRow, e api.Errno) {
		t.Helper()
		if got := rowsText(l); got != want || e != wantE {
			t.Errorf("%s: %.900s, error %d, want %.900s, error %d", what, got, e, want, wantE)
		}
	}
}

// expectBest expects a row as rowText writes it, and a proof, or an error.
func expectBest(t *testing.T, what, want string, wantProof api.Proof, wantE api.Errno) func(api.TnRow, api.Proof, api.Errno) {
	return func(r api.TnRow, q api.Proof, e api.Errno) {
		t.Helper()
		if wantE != api.OK {
			wantProof = api.Proof{}
		}
		if got, wanted := dump(q), dump(wantProof); got != wanted {
			t.Errorf("%s: the proof %.900s, want %.900s", what, got, wanted)
		}
		expectRow(t, what, want, wantE)(r, e)
	}
}

func expectInt(t *testing.T, what string, want int, wantE api.Errno) func(int, api.Errno) {
	return func(n int, e api.Errno) {
		t.Helper()
		if n != want || e != wantE {
			t.Errorf("%s: %d, error %d, want %d, error %d", what, n, e, want, wantE)
		}
	}
}

func expectBool(t *testing.T, what string, want bool, wantE api.Errno) func(bool, api.Errno) {
	return func(is bool, e api.Errno) {
		t.Helper()
		if is != want || e != wantE {
			t.Errorf("%s: %v, error %d, want %v, error %d", what, is, e, want, wantE)
		}
	}
}

func expectErrno(t *testing.T, what string, e, want api.Errno) {
	t.Helper()
	if e != want {
		t.Errorf("%s: error %d, want %d", what, e, want)
	}
}

// expectProgram expects a program, or an error.
func expectProgram(t *testing.T, what string, want api.Prog, wantE api.Errno) func(api.Prog, api.Errno) {
	return func(p api.Prog, e api.Errno) {
		t.Helper()
		if wantE != api.OK {
			want = api.Prog{}
		}
		if !lang.Same(p, want) || e != wantE {
			t.Errorf("%s: %.900s, error %d, want %.900s, error %d", what, dump(p), e, dump(want), wantE)
		}
	}
}

// expectPoints expects numbers, or an error.
func expectPoints(t *testing.T, what, want string, wantE api.Errno) func([]api.Rat, api.Errno) {
	return func(l []api.Rat, e api.Errno) {
		t.Helper()
		if got := ratsText(l); got != want || e != wantE {
			t.Errorf("%s: %.900s, error %d, want %.900s, error %d", what, got, e, want, wantE)
		}
	}
}

func ratsText(l []api.Rat) string { return strings.Trim(fmt.Sprint(l), "[]") }

// foundText writes a point: its numbers, and the error, or the fault.
func foundText(x api.TnFound) string {
	text := ratsText(x.In) + ":"
	if x.Fault != (api.RnFault{}) {
		text += fmt.Sprint(" fault ", x.Fault.Kind, " ", x.Fault.Node, " ", x.Fault.Step)
	}
	if x.Error != "" {
		text += fmt.Sprint(" error ", x.Error)
	}
	return text
}

// expectFound expects a point as foundText writes it, or an error.
func expectFound(t *testing.T, what, want string, wantE api.Errno) func(api.TnFound, api.Errno) {
	return func(x api.TnFound, e api.Errno) {
		t.Helper()
		if wantE != api.OK {
			want = ":"
		}
		if got := foundText(x); got != want || e != wantE {
			t.Errorf("%s: %.400s, error %d, want %.400s, error %d", what, got, e, want, wantE)
		}
	}
}

func expectAccepted(t *testing.T, what string, p api.Prog, q api.Proof) {
	t.Helper()
	if item, node, e := proofs.Check(p, q); e != api.OK {
		t.Errorf("%s: the item %d, node %d has the error %d", what, item, node, e)
	}
}

func number(t testing.TB, text api.Rat) exact.Num {
	t.Helper()
	x, e := exact.Parse(text)
	if e != api.OK {
		t.Fatalf("%.60q: error %d", text, e)
	}
	return x
}

func toRat(text api.Rat) *big.Rat {
	x, is := new(big.Rat).SetString(string(text))
	if !is {
		panic("no number: " + string(text))
	}
	return x
}

func toText(x *big.Rat) api.Rat { return api.Rat(x.RatString()) }

// digits returns the least number with so many digits.
func digits(count int) string { return "1" + strings.Repeat("0", count-1) }

// dump writes all parts of values; those that are equal have the same dump.
func dump(values ...any) string { return fmt.Sprintf("%+v", values) }
