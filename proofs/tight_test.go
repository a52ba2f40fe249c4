package proofs_test

import (
	"fmt"
	"slices"
	"testing"

	"vernier/api"
	"vernier/proofs"
)

// stepCase is an operation of x, y, z and w, what is claimed of them, and its step: the
// range and the propagated error, or nothing where it is not possible. Of an operation
// that is rounded most is the size of the range and the propagated error together.
type stepCase struct {
	expr, claims, want, most string
}

// TestP7_2_Steps: the range and the error of each operation.
func TestP7_2_Steps(t *testing.T) {
	for _, x := range []stepCase{
		{"-x", "-1 3 1/4", "-3 1 1/4", ""},
		{"abs(x)", "-1 3 1/4", "0 3 1/4", ""},
		{"abs(x)", "-3 -1 1/4", "1 3 1/4", ""},
		{"abs(x)", "1/2 3 1/4", "1/2 3 1/4", ""},
		{"s(x)", "-1 3 1/4", "-1 3 1/4", ""},
		{"x + y", "-1 3 1/4, 2 5 1/8", "1 8 3/8", "67/8"},
		{"x - y", "-1 3 1/4, 2 5 1/8", "-6 1 3/8", "51/8"},
		{"x * y", "-1 3 1/4, -2 5 1/8", "-6 15 53/32", "533/32"}, // 3/8 + 5/4 + 1/32
		{"x * y", "-3 -1 1/4, -5 -2 1/8", "2 15 53/32", "533/32"},
		{"x * y", "-3 1 0, 0 0 1/8", "0 0 3/8", "3/8"},
		{"x * y", "0 0 0, 0 0 0", "0 0 0", "0"},
		{"x / y", "-1 3 1/4, 2 5 1", "-1/2 3/2 17/8", "29/8"}, // (3 + 5/4) / (2 * 1)
		{"x / y", "-1 3 1/4, -5 -2 1", "-3/2 1/2 17/8", "29/8"},
		{"x / y", "1 1 0, 2 4 0", "1/4 1/2 0", "1/2"},
		{"x / y", "1 1 0, 0 4 0", "", ""},
		{"x / y", "1 1 0, -1 4 0", "", ""},
		{"x / y", "1 1 0, -1 0 0", "", ""},
		{"x / y", "1 1 0, 1 4 1", "", ""},
		{"x / y", "1 1 0, -4 -1 1", "", ""},
		{"x / y", "1 1 0, 1 4 2", "", ""},
		{"x / y", "0 0 0, 1 4 1/2", "0 0 0", "0"},
		{"sqrt(x)", "4 9 0", "2 3 0", "3"},
		{"sqrt(x)", "4 9 7/4", "2 3 1/2", "7/2"},     // (7/4) / (2 + 3/2)
		{"sqrt(x)", "0 4 0", "0 2 0", "2"},           // the sum is 0
		{"sqrt(x)", "1/4 4 1/4", "1/2 2 1/2", "5/2"}, // both are 1/2
		{"sqrt(x)", "0 4 1/4", "", ""},
		{"sqrt(x)", "-1 4 0", "", ""},
		{"sqrt(x)", "1 4 2", "", ""},
		{"sqrt(x)", "-4 -1 0", "", ""},
		{"min(x, y)", "-1 3 1/4, 0 2 1/8", "-1 2 1/4", ""},
		{"min(x, y)", "1 3 1/8, 0 5 1/4", "0 3 1/4", ""},
		{"max(x, y)", "-1 3 1/4, 0 2 1/8", "0 3 1/4", ""},
		{"max(x, y)", "1 3 1/8, 0 5 1/4", "1 5 1/4", ""},
		{"fma(x, y, z)", "-1 3 1/4, -2 5 1/8, 1 2 1", "-5 17 85/32", "629/32"},
		{"if x <= y then z else w", "0 1 0, 1 2 0, 5 6 1/4, 7 8 1/8", "5 6 1/4", ""},
		{"if x <= y then z else w", "0 1 1/4, 3/2 2 1/4, 5 6 1/4, 7 8 1/8", "5 6 1/4", ""},
		{"if x <= y then z else w", "0 1 1/4, 3/2 2 1/3, 5 6 1/4, 7 8 1/8", "5 8 13/4", ""}, // 8 - 19/4
		{"if x <= y then z else w", "0 1 1/4, 1 2 0, 7 8 1/8, 5 6 1/4", "5 8 13/4", ""},
		{"if x <= y then z else w", "0 1 1/4, 1 2 0, 7 8 1/4, 5 6 1/8", "5 8 13/4", ""}, // 33/4 - 5
		{"if x <= y then z else w", "0 1 1/4, 1 2 0, 5 6 1/8, 7 8 1/4", "5 8 13/4", ""},
		{"if x <= y then z else w", "2 3 0, 1 2 0, 5 6 1/4, 7 8 1/8", "5 8 13/4", ""},
		{"if x <= y then z else w", "2 3 0, 1 3/2 0, 5 6 1/4, 7 8 1/8", "7 8 1/8", ""},
		{"if x <= y then z else w", "2 3 1/4, 1 3/2 1/8, 5 6 1/4, 7 8 1/8", "7 8 1/8", ""},
		{"if x <= y then z else w", "2 3 1/4, 1 3/2 1/4, 5 6 1/4, 7 8 1/8", "5 8 13/4", ""},
		{"if x <= y then z else w", "0 3 0, 1 2 0, 1 1 4, 1 1 0", "1 1 4", ""},
		{"if x <= y then z else w", "0 3 0, 1 2 0, 1 1 0, 1 1 4", "1 1 4", ""},
		{"if x <= y then z else w", "0 3 0, 1 2 0, 1 9 1/4, 3 5 1/8", "1 9 25/4", ""}, // 37/4 - 3
		{"if x <= y then z else w", "0 3 0, 1 2 0, 3 5 1/8, 1 9 1/4", "1 9 25/4", ""},
		{"if x <= y then z else w", "0 3 0, 1 2 0, 1 9 1/4, 5 7 1/8", "1 9 25/4", ""}, // 7 - 3/4
	} {
		expectStep(t, x)
	}
}

func expectStep(t *testing.T, x stepCase) {
	t.Helper()
	p := program(t, "format s 8 24; input x : s from 0 to 1; input y : s from 0 to 1; input z : s from 0 to 1; input w : s from 0 to 1; let r : s = "+x.expr+"; result r")
	l := api.PfItem{Claims: make([]api.PfClaim, len(p.Nodes))}
	at := 0
	for _, s := range splitWords(x.claims) {
		l.Claims[at] = api.PfClaim{Lo: s[0], Hi: s[1], Err: s[2]}
		at++
	}
	l.Claims[p.Result] = api.PfClaim{Rule: api.PfStep, Lo: "any", Hi: "any", Err: "any"}
	want, e := x.want, proofs.ErrFault
	if x.want != "" {
		e = api.OK
		w := splitWords(x.want)[0]
		err := toRat(w[2])
		if x.most != "" {
			rounding, _ := roundingModel(api.RnEven, p.Formats[0], toRat(api.Rat(x.most)))
			err = plus(err, rounding)
		}
		want = fmt.Sprint(w[0], " ", w[1], " ", toText(err))
	}
	expectTight(t, x.expr+" of "+x.claims, want, e)(proofs.Tight(p, spans("0 1, 0 1, 0 1, 0 1"), l, p.Result))
}

// TestP7_2_Roots: the error of a root is the lesser one of two bounds, both of which are
// rounded up. They are nearly equal where the least number is the error.
func TestP7_2_Roots(t *testing.T) {
	p := of(t, "let r : d = sqrt(x)")
	roots, quotients := 0, 0
	for k := int64(2); k < 60; k++ {
		x := rat(k, 7)
		byRoot, byQuotient := rootUp(x), over(x, rootDown(x))
		switch byRoot.Cmp(byQuotient) {
		case -1:
			roots++
		case 1:
			quotients++
		}
		claim := write(said{span{x, rat(9, 1)}, x})
		l := api.PfItem{Claims: []api.PfClaim{claim, {}, {}, {Rule: api.PfStep}}}
		err := least(byRoot, byQuotient)
		rounding, _ := roundingModel(api.RnEven, p.Formats[2], plus(rat(3, 1), err))
		want := fmt.Sprint(toText(rootDown(x)), " 3 ", toText(plus(err, rounding)))
		expectTight(t, string(toText(x)), want, api.OK)(proofs.Tight(p, spans("0 1, 0 1, 0 1"), l, 3))
	}
	if roots < 10 || quotients < 10 {
		t.Errorf("%d by the root, %d by the quotient", roots, quotients)
	}
}

// splitWords reads rows of three numbers, with commas between the rows.
func splitWords(text string) [][]api.Rat {
	var out [][]api.Rat
	var row []api.Rat
	word := ""
	for _, c := range text + "," {
		switch {
		case c != ' ' && c != ',':
			word += string(c)
			continue
		case word != "":
			row = append(row, api.Rat(word))
			word = ""
		}
		if c == ',' {
			out, row = append(out, row), nil
		}
	}
	return out
}

// TestP7_2_Given: the claims of inputs, constants and states.
func TestP7_2_Given(t *testing.T) {
	p := program(t, "format h 5 11; input x : h from 0 to 1; input y : h from 0 to 2; let a : h = y + x; result a")
	l := leaf(t, "step x x x; step x x x; -", "")
	expectTight(t, "the first input", "1/3 5 0", api.OK)(proofs.Tight(p, spans("-1 1/2, 1/3 5"), l, 1))
	expectTight(t, "the second input", "-1 1/2 0", api.OK)(proofs.Tight(p, spans("-1 1/2, 1/3 5"), l, 0))
	// Inputs are values: nothing is not bounded.
	expectTight(t, "a wide box", "-1 1000000 0", api.OK)(proofs.Tight(p, spans("-1 1000000, 0 0"), l, 0))
	for _, x := range []struct {
		mode  string
		value string
		want  string
	}{
		{"even", "1", "1 1 0"}, {"even", "1/3", "1/3 1/3 1/12288"}, {"down", "1/3", "1/3 1/3 1/12288"}, {"up", "1/3", "1/3 1/3 1/6144"},
		{"even", "65504", "65504 65504 0"}, {"even", "65519", "65519 65519 15"}, {"even", "65520", ""}, {"away", "65520", ""},
		{"zero", "65535", "65535 65535 31"}, {"zero", "65536", ""}, {"down", "-65505", ""}, {"up", "-65535", "-65535 -65535 31"}, {"up", "65505", ""},
		{"even", "1/100000000", "1/100000000 1/100000000 1/100000000"},
	} {
		p := program(t, fmt.Sprintf("mode %s; format h 5 11; let a : h = {%s}; result a", x.mode, x.value))
		e := api.OK
		if x.want == "" {
			e = proofs.ErrFault
		}
		expectTight(t, fmt.Sprint(x), x.want, e)(proofs.Tight(p, nil, leaf(t, "step 0 0 0", ""), 0))
	}
	p = program(t, halves)
	l = leaf(t, "-; step 0 0 0; -; -; step 0 0 0", "7 -3 100000 1/3")
	expectTight(t, "a state", "-3 100000 1/3", api.OK)(proofs.Tight(p, spans("0 1"), l, 1))
	expectTight(t, "a state after the loop", "-3 100000 1/3", api.OK)(proofs.Tight(p, spans("0 1"), l, 4))
	l.Claims[1].Rule = api.PfMean
	expectTight(t, "a state is not smooth", "", proofs.ErrRule)(proofs.Tight(p, spans("0 1"), l, 1))
	l.Claims[1].Rule = api.PfSquares
	expectTight(t, "a state has no polynomial", "", proofs.ErrRule)(proofs.Tight(p, spans("0 1"), l, 1))
	for _, text := range []string{"state 1 0 0", "state 0 1 -1", "state x 1 0", "-"} {
		l = leaf(t, "-; step 0 0 0; -; -; 9 0 0 0", text)
		expectTight(t, "a state with no claim", "", proofs.ErrClaim)(proofs.Tight(p, spans("0 1"), l, 1))
		expectTight(t, "a state with no claim, and no rule", "", proofs.ErrClaim)(proofs.Tight(p, spans("0 1"), l, 4))
	}
}

// TestP7_2_Rounded: which operations are rounded, and when this is bounded.
func TestP7_2_Rounded(t *testing.T) {
	for _, x := range []struct {
		expr   string // of x in h, y in s, z in d, in the format s
		claims string
		want   string
		e      api.Errno
	}{
		{"-y", "0 1 0, 0 1 0, 0 1 0", "-1 0 0", api.OK},
		{"-x", "0 1 0, 0 1 0, 0 1 0", "-1 0 0", api.OK},
		{"-z", "0 1 0, 0 1 0, 0 1 0", "-1 0 1/16777216", api.OK},
		{"abs(z)", "0 1 0, 0 1 0, 0 1 0", "0 1 1/16777216", api.OK},
		{"abs(x)", "0 1 0, 0 1 0, 0 1 0", "0 1 0", api.OK},
		{"s(z)", "0 1 0, 0 1 0, 0 1 0", "0 1 1/16777216", api.OK},
		{"s(z)", "0 0 0, 0 0 0, 0 0 0", "0 0 0", api.OK},
		{"min(x, y)", "0 1 0, 0 1 0, 0 1 0", "0 1 0", api.OK},
		{"min(x, z)", "0 1 0, 0 1 0, 0 1 0", "0 1 1/16777216", api.OK},
		{"max(z, y)", "0 1 0, 0 1 0, 0 1 0", "0 1 1/16777216", api.OK},
		{"max(y, y)", "0 1 0, 0 1 0, 0 1 0", "0 1 0", api.OK},
		{"if z <= z then x else y", "0 1 0, 0 0 0, 0 1 0", "0 1 1", api.OK}, // x may be 1 where y is 0
		{"if z <= y then z else y", "0 1 0, 1 1 0, 0 1 0", "0 1 1/16777216", api.OK},
		{"if z <= y then x else z", "0 1 0, 1 1 0, 0 1 0", "0 1 1/16777216", api.OK}, // also if z is not taken
		{"x + y", "0 0 0, 0 0 0, 0 0 0", "0 0 0", api.OK},
		{"s(z)", "0 1 0, 0 1 0, 0 400000000000000000000000000000000000000 0", "", proofs.ErrFault},
		{"y * y", "0 1 0, 0 20000000000000000000 0, 0 1 0", "", proofs.ErrFault},
		{"y + y", "0 1 0, 0 1 400000000000000000000000000000000000000, 0 1 0", "", proofs.ErrFault},
	} {
		p := program(t, "format h 5 11; format s 8 24; format d 11 53; input x : h from 0 to 1; input y : s from 0 to 1; input z : d from 0 to 1; let r : s = "+x.expr+"; result r")
		l := api.PfItem{Claims: make([]api.PfClaim, len(p.Nodes))}
		for i, s := range splitWords(x.claims) {
			l.Claims[i] = api.PfClaim{Lo: s[0], Hi: s[1], Err: s[2]}
		}
		l.Claims[p.Result].Rule = api.PfStep
		expectTight(t, x.expr, x.want, x.e)(proofs.Tight(p, spans("0 1, 0 1, 0 1"), l, p.Result))
	}
	// The greatest value of the format is not too much.
	p := program(t, "format h 5 11; input x : h from 0 to 1; let r : h = x + x; result r")
	for _, x := range []struct {
		claims, want string
		e            api.Errno
	}{
		{"0 32752 0", "0 65504 16", api.OK}, {"0 32751 1/2", "0 65502 17", api.OK}, {"0 32752 1/1000", "", proofs.ErrFault},
		{"-32752 0 0", "-65504 0 16", api.OK}, {"-32753 0 0", "", proofs.ErrFault},
	} {
		expectTight(t, x.claims, x.want, x.e)(proofs.Tight(p, spans("0 1"), leaf(t, "step "+x.claims+"; step 0 0 0", ""), 1))
	}
}

// TestP7_2_Exact: when a difference is exact.
func TestP7_2_Exact(t *testing.T) {
	p := of(t, "let r : s = x - y")
	for _, x := range []struct {
		claims, want string
	}{
		{"exact 1 2 0; exact 1 2 0", "-1 1 0"},
		{"exact 1 2 1/8; exact 5/4 3/2 1/8", "-1/2 3/4 1/4"}, // 17/8 is at most twice 9/8, and 13/8 twice 7/8
		{"exact 1 2 1/8; exact 5/4 13/8 1/8", "-5/8 3/4 1/4"},
		{"exact 1 2 1/8; exact 5/4 7/4 1/8", ""},
		{"exact 1 2 1/8; exact 19/16 3/2 1/8", "-1/2 13/16 1/4"},
		{"exact 1 2 1/8; exact 37/32 3/2 1/8", ""},
		{"exact 1 2 0; exact 1 2 1/100", ""},
		{"exact 1 2 1/100; exact 1 2 0", ""},
		{"exact 0 0 0; exact 0 0 0", ""},
		{"exact 1 1 1; exact 1 1 0", ""},
		{"exact 1 1 0; exact 1 1 1", ""},
		{"exact -2 -1 0; exact -2 -1 0", ""},
		{"exact 1 2 0; exact -2 -1 0", ""},
		{"exact 3 3 0; exact 3/2 3/2 0", "3/2 3/2 0"},
		{"exact 3 3 0; exact 1499/1000 3/2 0", ""},
		{"exact 3/2 3/2 0; exact 3 3 0", "-3/2 -3/2 0"},
		{"exact 3/2 3/2 0; exact 3 3001/1000 0", ""},
		// Nothing is rounded: there is no greatest value.
		{"exact 400000000000000000000000000000000000000 400000000000000000000000000000000000000 0; exact 300000000000000000000000000000000000000 300000000000000000000000000000000000000 0", "100000000000000000000000000000000000000 100000000000000000000000000000000000000 0"},
	} {
		e := api.OK
		if x.want == "" {
			e = proofs.ErrRule
		}
		expectTight(t, x.claims, x.want, e)(proofs.Tight(p, spans("0 1, 0 1, 0 1"), leaf(t, x.claims+"; -; exact 0 0 0", ""), p.Result))
	}
	for _, x := range []struct {
		lines string
		e     api.Errno
	}{
		{"let r : s = x + y", proofs.ErrRule}, {"let r : s = -x", proofs.ErrRule}, {"let r : h = x - y", proofs.ErrRule}, {"let r : d = x - y", api.OK},
		{"let r : s = 1", proofs.ErrRule}, {"let r : s = x * y", proofs.ErrRule},
	} {
		p := of(t, x.lines)
		l := leaf(t, "exact 1 2 0; exact 1 2 0; exact 1 2 0; exact 0 0 0", "")
		if got, _, _, e := proofs.Tight(p, spans("1 2, 1 2, 1 2"), l, p.Result); e != x.e || e != api.OK && got.Sign() != 0 {
			t.Errorf("%s: %s, error %d, want error %d", x.lines, got.Text(), e, x.e)
		}
	}
	// Each format of both decides.
	for i, e := range []api.Errno{api.OK, proofs.ErrRule, proofs.ErrRule} {
		formats := [][2]string{{"s", "s"}, {"s", "d"}, {"d", "s"}}[i]
		p := program(t, "format s 8 24; format d 11 53; input x : "+formats[0]+" from 0 to 1; input y : "+formats[1]+" from 0 to 1; let r : s = x - y; result r")
		l := leaf(t, "exact 1 2 0; exact 1 2 0; exact 0 0 0", "")
		if _, _, _, got := proofs.Tight(p, spans("1 2, 1 2"), l, 2); got != e {
			t.Errorf("formats %v: error %d, want %d", formats, got, e)
		}
	}
}

// TestP7_2_Squares: the errors of squares, and what they prove.
func TestP7_2_Squares(t *testing.T) {
	p, box := program(t, square), spans("1 2")
	low := []api.PfSquare{sq("1", -1, "1 1; -1/2 0")}
	// 2 - f is 2 + x - x^2: that is 4 - 2 x and (x - 1)(2 - x); and 2 - x is (2 - x)^2 and (x - 1)(2 - x).
	high := []api.PfSquare{sq("3", 0, "1 0"), sq("2", -1, "1 1; -2 0")}
	bad := []api.PfSquare{sq("x", -1, "1 1")}
	large := []api.PfSquare{sq("1", -1, "1 9")}
	many := slices.Repeat(low, 20)
	for _, x := range []struct {
		name  string
		claim api.PfClaim
		want  string
		e     api.Errno
	}{
		{"no squares", api.PfClaim{Lo: "x", Hi: "x", Err: "x"}, "-1 3 3/1024", api.OK},
		{"low", api.PfClaim{Lo: "-1/4", Low: low}, "-1/4 3 3/1024", api.OK},
		{"high", api.PfClaim{Hi: "2", High: high}, "-1 2 3/1024", api.OK},
		{"both", api.PfClaim{Lo: "-1/4", Hi: "2", Low: low, High: high}, "-1/4 2 3/1024", api.OK},
		{"another Lo", api.PfClaim{Lo: "-1/2", Low: low}, "", proofs.ErrRule},
		{"another Hi", api.PfClaim{Hi: "3", High: high}, "", proofs.ErrRule},
		{"squares of the other end", api.PfClaim{Hi: "-1/4", High: low}, "", proofs.ErrRule},
		{"no Lo", api.PfClaim{Low: low}, "", api.ErrForm},
		{"a long Lo", api.PfClaim{Lo: long, Low: bad}, "", api.ErrLong},
		{"no Hi", api.PfClaim{High: bad}, "", api.ErrForm},
		{"a long Hi", api.PfClaim{Hi: long, High: bad}, "", api.ErrLong},
		{"squares with an error", api.PfClaim{Lo: "0", Low: bad}, "", api.ErrForm},
		{"squares with an error", api.PfClaim{Hi: "0", High: bad}, "", api.ErrForm},
		{"squares that are too large", api.PfClaim{Hi: "0", High: large}, "", api.ErrLong},
		{"Lo comes ahead of High", api.PfClaim{Lo: "0", Low: low, High: bad}, "", proofs.ErrRule},
		{"Lo is right", api.PfClaim{Lo: "-1/4", Low: low, High: bad}, "", api.ErrForm},
		{"20 squares", api.PfClaim{Lo: "-1/4", Low: many}, "", proofs.ErrRule},
		{"21 squares", api.PfClaim{Lo: "x", Low: append(slices.Clone(many), bad...)}, "", api.ErrLong},
		{"21 squares", api.PfClaim{Hi: "x", High: append(slices.Clone(many), bad...)}, "", api.ErrLong},
	} {
		l := ofSquare(t).Items[0]
		x.claim.Rule = api.PfSquares
		l.Claims[2] = x.claim
		expectTight(t, x.name, x.want, x.e)(proofs.Tight(p, box, l, 2))
	}
	// An end that is proved may be worse than that of the step, or above the other end; the
	// size of both decides on the rounding.
	p = program(t, "format h 5 11; input x : h from 0 to 1; let a : h = x + x; result a")
	l := leaf(t, "step 0 1 0; -", "")
	l.Claims[1] = api.PfClaim{Rule: api.PfSquares, Lo: "-7", Low: []api.PfSquare{sq("2", -1, "1 1"), sq("2", 0, "1 0"), sq("7", -1, "1 0")}}
	expectTight(t, "a lesser Lo", "-7 2 1/512", api.OK)(proofs.Tight(p, spans("0 1"), l, 1))
	p = program(t, "format h 5 11; input x : h from 8 to 16; let a : h = x + x; result a")
	l = leaf(t, "step 0 1 0; -", "")
	// 2 x - 16 is twice x - 8, which is ((x - 8)^2 + (x - 8)(16 - x)) / 8.
	l.Claims[1] = api.PfClaim{Rule: api.PfSquares, Lo: "16", Low: []api.PfSquare{sq("1/4", -1, "1 1; -8 0"), sq("1/4", 0, "1 0")}}
	expectTight(t, "ends in the other order", "16 2 1/128", api.OK)(proofs.Tight(p, spans("8 16"), l, 1))
	// -16 - 2 x is twice -8 - x, and is not below 0 up to -8.
	down := l
	down.Claims = slices.Clone(l.Claims)
	down.Claims[1] = api.PfClaim{Rule: api.PfSquares, Hi: "-16", High: []api.PfSquare{sq("1/4", -1, "1 1; 8 0"), sq("1/4", 0, "1 0")}}
	expectTight(t, "ends in the other order, below 0", "0 -16 1/128", api.OK)(proofs.Tight(p, spans("-16 -8"), down, 1))
	l.Claims[1].Lo, l.Claims[1].Low = "0", nil
	expectTight(t, "no squares", "0 2 1/1024", api.OK)(proofs.Tight(p, spans("8 16"), l, 1))
}

// TestP7_2_Order: the errors of Tight, in their order.
func TestP7_2_Order(t *testing.T) {
	p := of(t, "let w : s = x + x; let r : s = y / x")
	box := spans("1 2, 1 2, 1 2")
	right := func() api.PfItem {
		return api.PfItem{Claims: claims(t, "step 1 2 0; step 1 2 0; -; -; step 1/2 2 1/8388608")}
	}
	tight := func(name string, node int, box []api.Span, e api.Errno, edit func(l *api.PfItem)) {
		t.Helper()
		l := right()
		edit(&l)
		_, _, _, got := proofs.Tight(p, box, l, node)
		if got != e {
			t.Errorf("%s: error %d, want %d", name, got, e)
		}
	}
	many := slices.Repeat([]api.PfSquare{{}}, 21)
	none := func(l *api.PfItem) { l.Claims = nil }
	tight("right", 4, box, api.OK, func(l *api.PfItem) {})
	tight("other fields", 4, box, api.OK, func(l *api.PfItem) { l.Kind, l.Input, l.At = 9, 9, "x" })
	tight("fewer spans", 9, box[:2], api.ErrArg, none)
	tight("more spans", 9, append(slices.Clone(box), box...), api.ErrArg, none)
	tight("no number", 9, spans("2 1, 1 2, x 1"), api.ErrForm, none)
	tight("a long number", 9, []api.Span{{Lo: "2", Hi: "1"}, {Lo: "1", Hi: long}, {}}, api.ErrLong, none)
	tight("a span with its ends in the other order", 9, spans("1 2, 2 1, 1 2"), api.ErrRange, none)
	tight("no node", 5, box, api.ErrRange, none)
	tight("a node below 0", -1, box, api.ErrRange, none)
	tight("a node that is not needed", 3, box, api.ErrRange, none)
	tight("no claims", 4, box, api.ErrArg, none)
	tight("more claims", 4, box, api.ErrArg, func(l *api.PfItem) { l.Claims = append(l.Claims, api.PfClaim{}); l.Claims[0].Lo = "x" })
	tight("states", 4, box, api.ErrArg, func(l *api.PfItem) { l.States = append(l.States, api.PfClaim{}); l.Claims[0].Lo = "x" })
	tight("an operand", 4, box, proofs.ErrClaim, func(l *api.PfItem) { l.Claims[0].Lo = "x"; l.Claims[4].Low = many })
	tight("an operand", 4, box, proofs.ErrClaim, func(l *api.PfItem) { l.Claims[1].Err = long; l.Claims[4].Low = many })
	tight("an operand", 4, box, proofs.ErrClaim, func(l *api.PfItem) { l.Claims[1].Err = "-1"; l.Claims[4].Rule = 9 })
	tight("an operand", 4, box, proofs.ErrClaim, func(l *api.PfItem) { l.Claims[0].Hi = "0"; l.Claims[4].Rule = 9 })
	tight("no operand", 4, box, api.OK, func(l *api.PfItem) { l.Claims[2].Hi, l.Claims[3].Err = "x", "y" })
	tight("the claim itself", 4, box, api.OK, func(l *api.PfItem) { l.Claims[4].Lo, l.Claims[4].Hi, l.Claims[4].Err = "x", "", "-1" })
	tight("the rule of an operand", 4, box, api.OK, func(l *api.PfItem) { l.Claims[0].Rule, l.Claims[0].Low = 77, many })
	tight("many squares", 4, box, api.ErrLong, func(l *api.PfItem) { l.Claims[4].Low, l.Claims[4].Rule = many, 0 })
	tight("many squares", 4, box, api.ErrLong, func(l *api.PfItem) { l.Claims[4].High, l.Claims[4].Rule = many, 5 })
	tight("20 squares", 4, box, proofs.ErrRule, func(l *api.PfItem) { l.Claims[4].High = many[:20] })
	for _, rule := range []int{0, 5, -1, 1 << 40} {
		tight("no rule", 4, box, proofs.ErrRule, func(l *api.PfItem) { l.Claims[4].Rule, l.Claims[0].Lo = rule, "0" })
	}
	for _, rule := range []int{api.PfStep, api.PfExact, api.PfMean} {
		tight("squares", 4, box, proofs.ErrRule, func(l *api.PfItem) { l.Claims[4].Rule, l.Claims[4].Low, l.Claims[0].Lo = rule, many[:1], "0" })
		tight("squares", 4, box, proofs.ErrRule, func(l *api.PfItem) { l.Claims[4].Rule, l.Claims[4].High = rule, many[:1] })
	}
	for _, rule := range []int{api.PfStep, api.PfExact, api.PfMean, api.PfSquares} {
		tight("a step that is not possible", 4, box, proofs.ErrFault, func(l *api.PfItem) { l.Claims[4].Rule, l.Claims[0].Lo = rule, "0" })
	}
	huge := func(l *api.PfItem) { l.Claims[1].Hi = api.Rat(digits(100)) }
	tight("not bounded", 4, box, proofs.ErrFault, huge)
	tight("the rule comes ahead of the bound", 4, box, proofs.ErrRule, func(l *api.PfItem) { huge(l); l.Claims[4].Rule = api.PfExact })
	tight("the rule comes ahead of the bound", 4, box, proofs.ErrRule, func(l *api.PfItem) { huge(l); l.Claims[4].Rule = api.PfSquares })
	tight("a mean value form that is bounded", 4, box, api.OK, func(l *api.PfItem) { l.Claims[4].Rule = api.PfMean })
}
