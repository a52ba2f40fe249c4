package reals_test

import (
	"strconv"
	"strings"
	"testing"

	"vernier/api"
	"vernier/exact"
)

var modes = []int{api.RnEven, api.RnAway, api.RnTrunc, api.RnUp, api.RnDown}

// kinds are the words of the chapter's short lists, for the kinds that use nodes.
var kinds = map[string]int{
	"neg": api.RlNeg, "abs": api.RlAbs, "sqrt": api.RlRoot,
	"plus": api.RlAdd, "less": api.RlSub, "times": api.RlMul, "by": api.RlQuo, "min": api.RlMin, "max": api.RlMax,
}

// list reads a list that is written as in the chapter: nodes with semicolons
// between them, such as "2; sqrt 0; 1 plus 0".
func list(t testing.TB, text string) []api.RlNode {
	t.Helper()
	var out []api.RlNode
	for part := range strings.SplitSeq(text, ";") {
		var x api.RlNode
		words := strings.Fields(part)
		switch len(words) {
		case 1:
			x = api.RlNode{Kind: api.RlNum, Val: api.Rat(words[0])}
		case 2:
			x = api.RlNode{Kind: kinds[words[0]], A: number(t, words[1])}
		case 3:
			x = api.RlNode{Kind: kinds[words[1]], A: number(t, words[0]), B: number(t, words[2])}
		}
		if x.Kind == 0 {
			t.Fatalf("no node: %s", part)
		}
		out = append(out, x)
	}
	return out
}

func number(t testing.TB, text string) int {
	t.Helper()
	n, err := strconv.Atoi(text)
	if err != nil {
		t.Fatal(err)
	}
	return n
}

// textOf writes a list as list reads it.
func textOf(l []api.RlNode) string {
	names := map[int]string{}
	for name, kind := range kinds {
		names[kind] = name
	}
	var parts []string
	for _, x := range l {
		a, b := strconv.Itoa(x.A), strconv.Itoa(x.B)
		switch {
		case x.Kind == api.RlNum:
			parts = append(parts, string(x.Val))
		case x.Kind <= api.RlRoot:
			parts = append(parts, names[x.Kind]+" "+a)
		default:
			parts = append(parts, a+" "+names[x.Kind]+" "+b)
		}
	}
	return strings.Join(parts, "; ")
}

// num reads a number.
func num(t testing.TB, text string) exact.Num {
	t.Helper()
	x, e := exact.Parse(api.Rat(text))
	if e != api.OK {
		t.Fatalf("Parse(%.40s): error %d", text, e)
	}
	return x
}

// two returns a power of two.
func two(t testing.TB, k int) exact.Num {
	t.Helper()
	x, e := exact.Two(k)
	if e != api.OK {
		t.Fatalf("Two(%d): error %d", k, e)
	}
	return x
}
