package lang_test

import (
	"math/rand"
	"slices"
	"strings"
	"testing"

	"vernier/api"
	"vernier/lang"
)

// around has lines before and after a line under test; the line is number 5.
func around(line string) string {
	before := lines("format s 8 24;format h 5 11;input x : s from 0 to 1;input y : s from 0 to 1;")
	return before + line + "\n" + lines("let other : s = x;result other;")
}

// TestP4_3_Tokens: where tokens end, and what is none.
func TestP4_3_Tokens(t *testing.T) {
	const sixteen = "abcdefghijklmn_9"
	for _, line := range []string{
		"let a:s=x", "   let  a   :  s  =  x   ", "let a :s= x", "let a : s = (x)", "let a:s=x+y*2-3/x", "let a:s=- -x--y",
		"let " + sixteen + " : s = x", "let a9_z : s = x", "let z : s = 12.50", "let z : s = 007", "let z : s = 0.0",
		"let a : s = {1/2}", "let a:s={1}+{-2/3}*{5}", "let a : s = if x<=y then(x)else(y)", "let a:s=if(x)<=-y then 2 else 3", "let a : s = if 1 <= {2} then {1} else 2", "input z:s from-0 to-{0}",
		"let a : s = min(x,y)", "let a : s = min ( x , y )", "let a:s=1+x", "let a:s=x+1.5-{2}", "let even : s = x", "let f : s = x",
		"let a : s = h(x)+s(y)*1 - s(h(x))", "let a : s = 1*x", "", "        ",
	} {
		_, line5, e := lang.Parse(around(line))
		if e == lang.ErrSyntax {
			t.Errorf("%q: line %d has the error %d", line, line5, e)
		}
	}
	for _, line := range []string{
		"let " + sixteen + "x : s = x", "let " + sixteen + "1 : s = x", "let A : s = x", "let aB : s = x", "let _a : s = x", "let a' : s = x",
		"let a : s = 2x", "let a : s = x{1}", "let a : s = {1}x", "let a : s = 1{2}", "let a : s = {1}2", "let a : s = {1}{2}",
		"let a : s = 1.", "let a : s = .5", "let a : s = 1.x", "let a : s = 1.2.3", "let a : s = 1..2", "let a : s = 1. 5", "let a : s = 1e5",
		"let a : s = {}", "let a : s = {1", "let a : s = 1}", "let a : s = {1}}", "let a : s = { 1}", "let a : s = {1 }", "let a : s = {1.5}", "let a : s = {+1}", "let a : s = {x}",
		"let a : s = x\t", "\tlet a : s = x", "let a : s = x\r", "let a : s = x\x00", "let a : s = x \xff", "let a : s = x # y", "let\u00a0a : s = x",
		"let a : s = if x < y then x else y", "let a : s = if x < = y then x else y", "let a : s = if x =< y then x else y", "let a : s = x;", "let \u00e9 : s = x",
		"let a : s = if x<=2then 1 else 2", "let a : s = if x<={2}then 1 else 2", "let a : s = if x<=2 then 1else 2", "let a : s = if x<=2 then 1 else{2}", "let a : s = if{1}<=2 then 1 else 2",
		"input z : s from 0to 1", "input z : s from {0}to 1", "input z : s from{0} to 1", "input z : s from 0 to{1}", "format q 8{24}",
		"let1 a : s = x", "let a : s = x!", "leta : s = x",
	} {
		expectParse(t, around(line), 5, lang.ErrSyntax)
	}
}

// TestP4_3_Exact: dashes and slashes make an exact number, of which exact tells
// the error.
func TestP4_3_Exact(t *testing.T) {
	for _, text := range []string{"{-}", "{/}", "{1/}", "{--1}", "{05}", "{1/1}", "{2/4}", "{-0}", "{1/2/3}"} {
		expectParse(t, around("let a : s = "+text), 5, api.ErrForm)
		expectParse(t, around("input z : s from 0 to "+text), 5, api.ErrForm)
		expectParse(t, around("input z : s from - "+text+" to 5"), 5, api.ErrForm)
	}
}

// TestP4_3_Kinds: lines that have the words of their kinds, and lines that have
// others, fewer or more.
func TestP4_3_Kinds(t *testing.T) {
	good := []string{
		"mode even", "mode away", "mode zero", "mode up", "mode down",
		"format a 8 24", "format even 1 1", "format a 999 999", "format a 0999 00000001",
		"input a : s from 0 to 1", "input a : s from -0.5 to - 1", "input a : s from {1} to -{-1/2}", "input a : nothing from 7 to 0",
		"let a : s = x", "state a : s = x", "next a = x", "loop", "end", "result a", "result up",
	}
	for _, line := range good {
		if _, _, e := lang.Parse(around(line)); e == lang.ErrSyntax {
			t.Errorf("%q is a line", line)
		}
		expectParse(t, around(line+" x"), 5, lang.ErrSyntax)
		expectParse(t, around(line+" 1"), 5, lang.ErrSyntax)
		expectParse(t, around("( "+line), 5, lang.ErrSyntax)
		if i := strings.LastIndex(line, " "); i >= 0 {
			expectParse(t, around(line[:i]), 5, lang.ErrSyntax)
		}
	}
	for _, line := range []string{
		"mode", "mode Even", "mode 1", "mode nearest", "mode even away", "mode {1}", "mode format",
		"format a", "format a 8", "format a 8 24 1", "format a 0 24", "format a 8 0", "format a 1000 24", "format a 8 1000", "format a 8.0 24", "format a 8 24.0", "format a -8 24", "format a 8 - 24",
		"format a {8} 24", "format a 8 {24}", "format a 8 + 24", "format 1 8 24", "format a x 24", "format a 8, 24", "format a : 8 24",
		"format a " + strings.Repeat("9", 400) + " 24", "format a 8 18446744073709551617", "format a 000 24",
		"input a s from 0 to 1", "input a : s 0 to 1", "input a : s from 0 1", "input a : s from 0 to", "input a : s from to 1", "input a : s from 0 to 1 2", "input a : s to 0 from 1",
		"input a : s from x to 1", "input a : s from 0 to x", "input a : s from --1 to 1", "input a : s from 0 to - - 1", "input a : s from +1 to 1", "input a : s from (0) to 1", "input a : s from 0 to 1/2", "input a = s from 0 to 1",
		"let a = x", "let a : s x", "let a : = x", "let : s = x", "let a : s =", "let a : s", "let a : s : x", "let a : s = = x", "let a, b : s = x", "let 1 : s = x", "let a : 1 = x", "let a : s(x) = x", "let a : {1} = x",
		"state a = x", "state a : s", "state a : s x", "state", "next a : s = x", "next a", "next = x", "next a x", "next 1 = x", "loop x", "loop 1", "end end", "end loop",
		"result", "result 1", "result {1}", "result x y", "result x + y", "result (x)", "result : x",
		"x", "x = 1", "1", "{1}", "=", "(let a : s = x)", "a : s = x", "if x <= y then x else y", "sqrt(x)", "even", "to", "else", "from",
	} {
		expectParse(t, around(line), 5, lang.ErrSyntax)
	}
}

// TestP4_3_Reserved: reserved words are no names and no formats.
func TestP4_3_Reserved(t *testing.T) {
	reserved := strings.Fields("mode format input let state loop next end result from to if then else sqrt abs min max fma")
	free := strings.Fields("even away zero up down cast neg add sel f x s0 modes form iff sqrt2 t fm")
	for _, pattern := range []string{
		"format # 8 24", "input # : s from 0 to 1", "input a : # from 0 to 1", "let # : s = x", "let a : # = x", "let a : s = #", "let a : s = x + # * 2", "let a : s = # + 1",
		"let a : s = (#)", "let a : s = - #", "let a : s = sqrt(#)", "let a : s = # (x", "state # : s = x", "state a : # = x", "next # = x", "next a = #", "result #", "let a : s = if # <= x then x else x",
		"let a : s = if x <= # then x else x", "let a : s = if x <= x then # else x", "let a : s = if x <= x then x else #",
	} {
		for _, word := range reserved {
			expectParse(t, around(strings.ReplaceAll(pattern, "#", word)), 5, lang.ErrSyntax)
		}
		for _, word := range free {
			line := strings.ReplaceAll(pattern, "#", word)
			if _, _, e := lang.Parse(around(line)); (e == lang.ErrSyntax) != (strings.Count(line, "(") > strings.Count(line, ")")) {
				t.Errorf("%q: error %d", line, e)
			}
		}
	}
	for _, word := range strings.Fields("mode format input let state loop next end result from to then else") {
		expectParse(t, around("let a : s = "+word+"(x)"), 5, lang.ErrSyntax)
	}
	for _, word := range strings.Fields("even f nothing") {
		expectParse(t, around("let a : s = "+word+"(x)"), 5, lang.ErrName)
	}
}

// grammar is the chapter's, with all names being x, and all numbers 1.
var grammar = map[string][]string{
	"EXPR":   {"if SUM <= SUM then EXPR else EXPR", "SUM"},
	"SUM":    {"TERM", "SUM + TERM", "SUM - TERM"},
	"TERM":   {"FACTOR", "TERM * FACTOR", "TERM / FACTOR"},
	"FACTOR": {"- FACTOR", "ATOM"},
	"ATOM":   {"1", "{1}", "x", "CALL", "( EXPR )"},
	"CALL": {"sqrt ( EXPR )", "abs ( EXPR )", "min ( EXPR , EXPR )", "max ( EXPR , EXPR )",
		"fma ( EXPR , EXPR , EXPR )", "x ( EXPR )"},
}

// recognizer tells by trying everything what the grammar derives.
type recognizer struct {
	tokens []string
	known  map[string]bool
}

func (r *recognizer) derives(symbols []string, from, to int) bool {
	switch {
	case len(symbols) == 0:
		return from == to
	case to-from < len(symbols):
		return false
	}
	key := strings.Join(symbols, " ") + string(rune('A'+from)) + string(rune('A'+to))
	is, known := r.known[key]
	if known {
		return is
	}
	if grammar[symbols[0]] == nil {
		is = r.tokens[from] == symbols[0] && r.derives(symbols[1:], from+1, to)
	} else if len(symbols) == 1 {
		is = slices.ContainsFunc(grammar[symbols[0]], func(line string) bool { return r.derives(strings.Fields(line), from, to) })
	} else {
		for mid := from + 1; mid < to && !is; mid++ {
			is = r.derives(symbols[:1], from, mid) && r.derives(symbols[1:], mid, to)
		}
	}
	r.known[key] = is
	return is
}

// expectGrammar expects that Parse finds an expression exactly where the grammar
// does.
func expectGrammar(t *testing.T, tokens []string) bool {
	r := &recognizer{tokens, map[string]bool{}}
	want := r.derives([]string{"EXPR"}, 0, len(tokens))
	text := strings.Join(tokens, " ")
	if _, _, e := lang.Parse(around("let a : s = " + text)); (e != lang.ErrSyntax) != want {
		t.Errorf("%q: error %d, but is it an expression? %v", text, e, want)
	}
	return want
}

var grammarTokens = strings.Fields("x 1 - + * ( ) , min sqrt if <= then else")

// TestP4_3_GrammarShort: all expressions of at most 4 tokens.
func TestP4_3_GrammarShort(t *testing.T) {
	for n := 1; n <= 4; n++ {
		digits := make([]int, n)
		for more := true; more; {
			tokens := make([]string, n)
			for i, d := range digits {
				tokens[i] = grammarTokens[d]
			}
			expectGrammar(t, tokens)
			more = false
			for i := range digits {
				if digits[i]++; digits[i] < len(grammarTokens) {
					more = true
					break
				}
				digits[i] = 0
			}
		}
	}
}

// derivation returns tokens that the grammar derives from a symbol.
func derivation(random *rand.Rand, symbol string, room int) []string {
	choices := grammar[symbol]
	if choices == nil {
		return []string{symbol}
	}
	choice := choices[random.Intn(len(choices))]
	if room <= 0 {
		choice = map[string]string{"EXPR": "SUM", "SUM": "TERM", "TERM": "FACTOR", "FACTOR": "ATOM", "ATOM": "x", "CALL": "abs ( EXPR )"}[symbol]
	}
	var out []string
	for _, s := range strings.Fields(choice) {
		out = append(out, derivation(random, s, room-1)...)
	}
	return out
}

// TestP4_3_GrammarLong: longer expressions, also with a token changed.
func TestP4_3_GrammarLong(t *testing.T) {
	random := rand.New(rand.NewSource(43))
	all := strings.Fields("x 1 {1} - + * / ( ) , min max fma abs sqrt if <= then else = : from")
	good, bad := 0, 0
	for good+bad < 6000 {
		tokens := derivation(random, "EXPR", 4+random.Intn(7))
		if len(tokens) > 25 {
			continue
		}
		for range random.Intn(3) {
			at := random.Intn(len(tokens) + 1)
			switch random.Intn(3) {
			case 0:
				tokens = slices.Insert(tokens, at, all[random.Intn(len(all))])
			case 1:
				tokens = slices.Delete(tokens, max(at-1, 0), at)
			default:
				tokens = slices.Concat(tokens[:max(at-1, 0)], []string{all[random.Intn(len(all))]}, tokens[at:])
			}
		}
		if expectGrammar(t, tokens) {
			good++
		} else {
			bad++
		}
	}
	if good < 1000 || bad < 1000 {
		t.Errorf("only %d are expressions, and %d are not", good, bad)
	}
}

// TestP4_3_Levels: expressions with 40 levels, and with one more.
func TestP4_3_Levels(t *testing.T) {
	nest := func(before, inner, after string, n int) string {
		return strings.Repeat(before, n) + inner + strings.Repeat(after, n)
	}
	for _, x := range []struct{ before, after string }{
		{"", "+x"}, {"", "-1"}, {"", "*x"}, {"", "/{2}"}, {"-", ""}, {"- ", ""}, {"(", ")"}, {"abs(", ")"}, {"sqrt(", ")"},
		{"min(x,", ")"}, {"max(", ",1)"}, {"fma(1,2,", ")"}, {"fma(", ",1,2)"}, {"fma(1,", ",2)"}, {"s(", ")"},
		{"if x<=1 then ", " else 1"}, {"if x<=1 then 1 else ", ""}, {"x-(", ")"},
	} {
		for _, next := range []bool{false, true} {
			n := 39
			if x.before == "x-(" { // two levels each time; one more is innermost
				n = 19
			}
			inner := "x"
			if n == 19 {
				inner = "-x"
			}
			text := func(n int) string {
				if next {
					return lines("format s 8 24;input x : s from 0 to 1;state a : s = x;loop;next a = ") + nest(x.before, inner, x.after, n) + "\n"
				}
				return around("let a : s = " + nest(x.before, inner, x.after, n))
			}
			if _, line, e := lang.Parse(text(n)); e == lang.ErrSyntax {
				t.Errorf("%d times %q: line %d, error %d", n, x, line, e)
			}
			expectParse(t, text(n+1), 5, lang.ErrSyntax)
		}
	}
	// The condition of a choice, and the right side of a sign.
	for _, x := range []struct{ before, after string }{{"if ", "<=1 then 1 else 1"}, {"if 1<=", " then 1 else 1"}, {"1+1+1+", ""}, {"1*1*", ""}, {"1/", "+1-1"}} {
		for n := 30; n < 45; n++ {
			inner := nest("(", "x", ")", n)
			levels := n + 2 + strings.Count(x.after, "+") + strings.Count(x.after, "-")
			if _, line, e := lang.Parse(around("let a : s = " + x.before + inner + x.after)); (e == lang.ErrSyntax) != (levels > 40) {
				t.Errorf("%q with %d levels: line %d, error %d", x, levels, line, e)
			}
		}
	}
}

// TestP4_3_Deep: as many levels as a text has room for.
func TestP4_3_Deep(t *testing.T) {
	head := around("let a : s = ")
	for _, x := range []string{"(", "-", "abs(", "if ", "if x <= x then ", "x+", "x*", "min(x,", "if x<=x then x else ", "s(", "if(", "if x<=(", "{"} {
		line := "let a : s = " + strings.Repeat(x, (api.MaxText-len(head)-1)/len(x))
		expectParse(t, around(line), 5, lang.ErrSyntax)
		expectParse(t, around(line+"x"), 5, lang.ErrSyntax)
	}
}

// TestP4_3_FirstLine: the first line without a form is told, before all other
// errors.
func TestP4_3_FirstLine(t *testing.T) {
	expectParse(t, lines("format s 8 24;;let a : s = 1;loop;mode up;result b;x;y;"), 7, lang.ErrSyntax)
	expectParse(t, lines("result a;result b;result;"), 3, lang.ErrSyntax)
	expectParse(t, lines(";;;%;"), 4, lang.ErrSyntax)
	for text, wantE := range map[string]api.Errno{
		"x":                         lang.ErrSyntax,
		" ":                         lang.ErrSyntax,
		lines("mode up;") + "x":     lang.ErrSyntax,
		"%\nmode up":                lang.ErrSyntax,
		strings.Repeat(" ", 20001):  api.ErrLong,
		strings.Repeat("\n", 20001): api.ErrLong,
	} {
		expectParse(t, text, 0, wantE)
	}
	expectParse(t, strings.Repeat("\n", 20000), 20001, lang.ErrOrder)
	expectParse(t, strings.Repeat(" ", 19999)+"\n", 2, lang.ErrOrder)
	expectParse(t, strings.Repeat("\n", 19999)+" ", 0, lang.ErrSyntax)
	expectParse(t, "", 1, lang.ErrOrder)
	expectParse(t, "\n", 2, lang.ErrOrder)
}
