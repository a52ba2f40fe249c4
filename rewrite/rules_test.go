package rewrite_test

import (
	"fmt"
	"math"
	"strings"
	"testing"

	"vernier/api"
	"vernier/rewrite"
)

// TestP9_1_Names: there are 40 rules, with the names of the chapter, and no others.
func TestP9_1_Names(t *testing.T) {
	if n := rewrite.Rules(); n != 40 || len(names) != 40 {
		t.Errorf("Rules: %d, and %d names here", n, len(names))
	}
	for i, name := range names {
		if got := rewrite.Name(i + 1); got != name {
			t.Errorf("Name(%d): %q, want %q", i+1, got, name)
		}
	}
	for _, rule := range []int{0, -1, 41, 256 + 1, math.MaxInt, math.MinInt} {
		if got := rewrite.Name(rule); got != "" {
			t.Errorf("Name(%d): %q", rule, got)
		}
	}
}

// rewritings has for each rule the expression of the line r before, and after it. Letters are
// inputs: x from 1 to 2, y from 1/2 to 3, z from -1 to 1.
var rewritings = []struct{ rule, before, after string }{
	{"add-swap", "x + y", "y + x"},
	{"mul-swap", "x * y", "y * x"},
	{"add-right", "(x + y) + z", "x + (y + z)"},
	{"add-left", "x + (y + z)", "(x + y) + z"},
	{"mul-right", "(x * y) * z", "x * (y * z)"},
	{"mul-left", "x * (y * z)", "(x * y) * z"},
	{"spread", "x * (y + z)", "x * y + x * z"},
	{"gather", "x * y + x * z", "x * (y + z)"},
	{"sub-spread", "x * (y - z)", "x * y - x * z"},
	{"sub-gather", "x * y - x * z", "x * (y - z)"},
	{"sub-add", "x - y", "x + (- y)"},
	{"add-sub", "x + (- y)", "x - y"},
	{"neg-neg", "- (- x)", "x"},
	{"neg-mul", "(- x) * y", "- (x * y)"},
	{"double", "x + x", "2 * x"},
	{"squares", "x * x - y * y", "(x - y) * (x + y)"},
	{"sub-same", "x - x", "0"},
	{"add-back", "(x + y) - x", "y"},
	{"sub-left", "(x - y) - z", "x - (y + z)"},
	{"add-zero", "x + 0", "x"},
	{"mul-one", "x * 1", "x"},
	{"fuse", "x * y + z", "fma(x, y, z)"},
	{"unfuse", "fma(x, y, z)", "x * y + z"},
	{"div-spread", "(x + y) / z", "x / z + y / z"},
	{"div-gather", "x / z + y / z", "(x + y) / z"},
	{"mul-div", "(x / y) * z", "(x * z) / y"},
	{"div-div", "(x / y) / z", "x / (y * z)"},
	{"root-same", "sqrt(x) * sqrt(x)", "x"},
	{"root-square", "sqrt(x * x)", "abs(x)"},
	{"root-mul", "sqrt(x) * sqrt(y)", "sqrt(x * y)"},
	{"conjugate", "sqrt(x) - sqrt(y)", "(x - y) / (sqrt(x) + sqrt(y))"},
	{"abs-same", "abs(x)", "x"},
	{"min-left", "min(z, x)", "z"},
	{"min-right", "min(x, z)", "z"},
	{"max-left", "max(x, z)", "x"},
	{"max-right", "max(z, x)", "x"},
	{"sel-then", "if z <= x then y else w", "y"},
	{"sel-else", "if x + 1 <= z then y else z", "z"},
	{"cast", "s(x)", "x"},
	{"fold", "2 + 3", "5"},
}

// TestP9_2_Rules: what each rule makes of its pattern, and of that in the middle of a program.
func TestP9_2_Rules(t *testing.T) {
	for i, x := range rewritings {
		if names[i] != x.rule {
			t.Fatalf("the rule %d is not %s", i+1, x.rule)
		}
		p := canon(t, expression(t, x.before))
		at := api.RwStep{Rule: i + 1, Node: p.Result}
		expectProgram(t, x.rule, canon(t, expression(t, x.after)), api.OK)(rewrite.Apply(p, at))
		// The nodes of the pattern have the same numbers in a longer program.
		longer := func(e string) api.Prog { return canon(t, expression(t, fmt.Sprintf("(%s) / 9 - 7 * (%s)", e, e))) }
		expectProgram(t, x.rule+" within", longer(x.after), api.OK)(rewrite.Apply(longer(x.before), at))
	}
}

// TestP9_2_Matches: which rules match at the result of an expression. The operations, their
// order, the numbers and the same letters make the difference.
func TestP9_2_Matches(t *testing.T) {
	for _, x := range []struct{ expression, rules string }{
		{"x", ""},
		{"3", ""},
		{"- x", ""},
		{"- (- x)", "neg-neg"},
		{"abs(- (- x))", "abs-same"},
		{"x + y", "add-swap"},
		{"x - y", "sub-add"},
		{"x / y", ""},
		{"min(x, y)", "(min-left) (min-right)"},
		{"max(x, y)", "(max-left) (max-right)"},
		{"max(x, x)", "(max-left) (max-right)"},
		{"x + (y + z)", "add-swap add-left"},
		{"(x + y) + (z + w2)", "add-swap add-right add-left"},
		{"x + (y - z)", "add-swap"},
		{"(x * y) * z", "mul-swap mul-right"},
		{"x * (y * z)", "mul-swap mul-left"},
		{"x * (y / z)", "mul-swap"},
		{"(x / y) * z", "mul-swap mul-div"},
		{"(x + y) * z", "mul-swap"},
		{"x * (y + z)", "mul-swap spread"},
		{"x * (y - z)", "mul-swap sub-spread"},
		{"x * y + x * z", "add-swap gather fuse"},
		{"x * y + x * y", "add-swap gather double fuse"},
		{"x * y + z * x", "add-swap fuse"},
		{"y * x + z * x", "add-swap fuse"},
		{"x * y - x * z", "sub-gather sub-add"},
		{"x * y - z * x", "sub-add"},
		{"x + x * y", "add-swap"},
		{"x + (- y)", "add-swap add-sub"},
		{"(- x) + y", "add-swap"},
		{"(- x) * y", "mul-swap neg-mul"},
		{"x * (- y)", "mul-swap"},
		{"(- x) / y", ""},
		{"x + x", "add-swap double"},
		{"x * x", "mul-swap"},
		{"x * x - y * y", "sub-add squares"},
		{"x * x - x * x", "sub-gather sub-add squares sub-same"},
		{"x * x - x * y", "sub-gather sub-add"},
		{"x * y - y * x", "sub-add"},
		{"x * y - x * y", "sub-gather sub-add sub-same"},
		{"x * x - y * z", "sub-add"},
		{"x - x", "sub-add sub-same"},
		{"(x + y) - x", "sub-add add-back"},
		{"(x + y) - y", "sub-add"},
		{"(x + x) - x", "sub-add add-back"},
		{"x - (x + y)", "sub-add"},
		{"(x - y) - x", "sub-add sub-left"},
		{"x - (y - z)", "sub-add"},
		{"x + 0", "add-swap add-zero"},
		{"0 + x", "add-swap"},
		{"0 + 0", "add-swap double add-zero fold"},
		{"x + 1", "add-swap"},
		{"x - 0", "sub-add"},
		{"x * 1", "mul-swap mul-one"},
		{"1 * x", "mul-swap"},
		{"x * 0", "mul-swap"},
		{"x / 1", ""},
		{"2 / 1", "fold"},
		{"fma(x, y, z)", "unfuse"},
		{"fma(x, 1, 0)", "unfuse"},
		{"z + x * y", "add-swap"},
		{"x * y + z", "add-swap fuse"},
		{"(x + y) / z", "div-spread"},
		{"(x - y) / z", ""},
		{"z / (x + y)", ""},
		{"x / z + y / z", "add-swap div-gather"},
		{"x / z + x / y", "add-swap"},
		{"z / x + z / x", "add-swap double div-gather"},
		{"x / z - y / z", "sub-add"},
		{"(x / y) / z", "div-div"},
		{"x / (y / z)", ""},
		{"sqrt(x) * sqrt(x)", "mul-swap root-same root-mul"},
		{"sqrt(x) * sqrt(y)", "mul-swap root-mul"},
		{"sqrt(x) * x", "mul-swap"},
		{"sqrt(x) / sqrt(y)", ""},
		{"sqrt(x * x)", "root-square"},
		{"sqrt(x * y)", ""},
		{"sqrt(x)", ""},
		{"sqrt(4)", "fold"},
		{"sqrt(x) - sqrt(y)", "sub-add conjugate"},
		{"sqrt(x) - sqrt(x)", "sub-add sub-same conjugate"},
		{"sqrt(x) + sqrt(y)", "add-swap"},
		{"sqrt(x) - y", "sub-add"},
		{"if x <= y then z else x", "(sel-then) (sel-else)"},
		{"if x <= x then z else x", "(sel-then) (sel-else)"},
		{"s(x)", "cast"},
		{"s(s(x))", "cast"},
		{"s(2)", "cast fold"},
		{"min(2, 3)", "min-left (min-right) fold"},
		{"2 * x", "mul-swap"},
		{"if 1 <= 2 then 3 else x", "sel-then (sel-else)"},
	} {
		e := strings.ReplaceAll(x.expression, "w2", "s(w)")
		p := canon(t, expression(t, e))
		var got []string
		for i, name := range names {
			switch _, e := rewrite.Apply(p, api.RwStep{Rule: i + 1, Node: p.Result}); e {
			case api.OK:
				got = append(got, name)
			case rewrite.ErrSide:
				got = append(got, "("+name+")")
			case rewrite.ErrMatch:
			default:
				t.Errorf("%s at %s: error %d", name, x.expression, e)
			}
		}
		if text := strings.Join(got, " "); text != x.rules {
			t.Errorf("%s: %s, want %s", x.expression, text, x.rules)
		}
	}
}
