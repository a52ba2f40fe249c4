package lang_test

import (
	"fmt"
	"strings"
	"testing"

	"vernier/api"
	"vernier/lang"
)

// numbered returns some lines in which # is the number of the line.
func numbered(line string, from, to int) string {
	out := ""
	for i := from; i < to; i++ {
		out += strings.ReplaceAll(line, "#", fmt.Sprint(i))
	}
	return out
}

// TestP4_3_Limits: as many formats, inputs, states and nodes as the limits allow,
// and one more.
func TestP4_3_Limits(t *testing.T) {
	formats := numbered("format f# 8 24;", 0, 6)
	p := program(t, formats+"let a : f5 = 1;result a;")
	if len(p.Formats) != 6 || p.Nodes[0].Format != 5 {
		t.Errorf("six formats: %s", dump(p))
	}
	expectParse(t, lines(formats+"format f6 8 24;"), 7, api.ErrLong)

	inputs := "format s 8 24;" + numbered("input x# : s from # to 9;", 0, 6)
	p = program(t, inputs+"result x4;")
	if len(p.Inputs) != 6 || p.Result != 4 || p.Nodes[5].A != 5 || p.Inputs[5].Lo != "5" {
		t.Errorf("six inputs: %s", dump(p))
	}
	expectParse(t, lines(inputs+"input x6 : s from 0 to 9;"), 8, api.ErrLong)

	states := "format s 8 24;" + numbered("state s# : s = #;", 0, 4)
	p = program(t, states+"loop;"+numbered("next s# = s# + 1;", 0, 4)+"end;result s3;")
	if len(p.States) != 4 || p.Tail != 16 || p.Result != 19 {
		t.Errorf("four states: %s", dump(p))
	}
	expectParse(t, lines(states+"state s4 : s = 1;"), 6, api.ErrLong)

	lets := "format s 8 24;" + numbered("let a# : s = #;", 0, 64)
	if p = program(t, lets+"let b : s = a63;result b;"); len(p.Nodes) != 64 || p.Result != 63 {
		t.Errorf("64 nodes: %s", dump(p))
	}
	for _, line := range []string{"let b : s = 1;", "let b : s = {1};", "let b : s = -a0;", "let b : s = a0 + a1;", "let b : s = min(a0, a1);", "let b : s = s(a0);", "let b : s = if a0 <= a1 then a2 else a3;", "let b : s = sqrt(a0);", "state b : s = 1;"} {
		expectParse(t, lines(lets+line), 66, api.ErrLong)
	}
}

// TestP4_3_LimitsInLoops: nodes of states, at loop and at end, may be too many.
func TestP4_3_LimitsInLoops(t *testing.T) {
	for lets := 50; lets < 66; lets++ {
		head := "format s 8 24;" + numbered("let a# : s = #;", 0, min(lets, 64)) + "state u : s = a0;state v : s = a1;"
		text := lines(head + "loop;next u = a1;next v = u;end;let z : s = u - v;result z;")
		at := 1 + min(lets, 64) + 2
		switch {
		case lets <= 59:
			if _, line, e := lang.Parse(text); e != api.OK {
				t.Errorf("%d nodes before the loop: line %d, error %d", lets, line, e)
			}
		case lets == 60:
			expectParse(t, text, at+5, api.ErrLong)
		case lets <= 62:
			expectParse(t, text, at+4, api.ErrLong)
		default:
			expectParse(t, text, at+1, api.ErrLong)
		}
	}
}

// TestP4_3_FirstError: of several errors in a line the one that is met first, from
// the left to the right.
func TestP4_3_FirstError(t *testing.T) {
	long := strings.Repeat("1", 2001)
	const begin = "format s 8 24;format h 5 11;input x : s from 0 to 1;"
	full := begin + numbered("let a# : s = #;", 0, 63)
	states := begin + numbered("state t# : s = #;", 0, 4)
	loop := states + "loop;next t0 = 1;"
	six := numbered("format f# 8 24;", 0, 6)
	inputs := "format s 8 24;format h 5 11;" + numbered("input x# : s from 0 to 9;", 0, 6)
	for _, c := range []struct {
		before, line string
		e            api.Errno
	}{
		{begin, "format x 1 999", lang.ErrOrder}, {begin, "mode up", lang.ErrOrder}, {begin, "next nothing = {05}", lang.ErrOrder}, {begin + "let a : s = 1;", "input x : y from {05} to 2", lang.ErrOrder},
		{states, "result nothing", lang.ErrOrder}, {loop, "end", lang.ErrOrder}, {loop, "state x : s = 1", lang.ErrOrder},
		{"format s 8 24;", "format s 1 999", lang.ErrName}, {"format s 8 24;", "format h 1 999", api.ErrRange}, {"format s 8 24;", "format h 12 24", api.ErrRange}, {"format s 8 24;", "format h 2 2", api.ErrRange}, {"format s 8 24;", "format h 8 1", api.ErrRange},
		{six, "format h 12 24", api.ErrRange}, {six, "format f0 8 24", lang.ErrName}, {six, "format h 8 24", api.ErrLong},
		{begin, "input x : s from {05} to 1", lang.ErrName}, {begin, "input y : z from {05} to 1", lang.ErrName}, {begin, "input y : s from {05} to " + long, api.ErrForm}, {begin, "input y : s from 0.1 to {05}", api.ErrRange},
		{begin, "input y : s from 2 to 0.1", api.ErrRange}, {begin, "input y : s from 2 to {05}", api.ErrForm}, {begin, "input y : s from 2 to " + long, api.ErrLong}, {begin, "input y : h from 65520 to " + long, api.ErrRange},
		{inputs, "input y : s from 1 to 0", api.ErrRange}, {inputs, "input y : h from 65520 to 65520", api.ErrRange}, {inputs, "input x1 : s from 0 to 1", lang.ErrName}, {inputs, "input y : s from 0 to 1", api.ErrLong},
		{begin, "let x : z = {05}", lang.ErrName}, {begin, "let y : z = {05}", lang.ErrName}, {begin, "let y : s = {05} + nothing", api.ErrForm}, {begin, "let y : s = nothing + {05}", lang.ErrName}, {begin, "let y : s = x * " + long + " + nothing", api.ErrLong},
		{begin, "let y : s = z({05})", lang.ErrName}, {begin, "let y : s = h({05})", api.ErrForm}, {begin, "let y : s = h(nothing)", lang.ErrName}, {begin, "let y : s = h(x) + h(nothing)", lang.ErrName},
		{begin, "let y : s = if {05} <= nothing then z(1) else 1", api.ErrForm}, {begin, "let y : s = if 1 <= nothing then {05} else 1", lang.ErrName}, {begin, "let y : s = if 1 <= 1 then {05} else nothing", api.ErrForm}, {begin, "let y : s = fma(x, {05}, nothing)", api.ErrForm},
		{full, "let y : s = 1", api.ErrLong}, {full, "let y : s = 1 + nothing", api.ErrLong}, {full, "let y : s = {05}", api.ErrForm}, {full, "let y : s = x + nothing", lang.ErrName}, {full, "let y : s = x + x + nothing", api.ErrLong}, {full, "let y : s = x + x * nothing", lang.ErrName},
		{full, "let y : h = h(x)", api.ErrLong}, {full, "let y : s = nothing(x + x)", lang.ErrName}, {full, "let y : h = x", lang.ErrFormat}, {full, "let y : s = min(x, x) + nothing", api.ErrLong}, {full, "let y : s = -x - nothing", api.ErrLong},
		{full, "state y : h = x", lang.ErrFormat}, {full, "state x : h = x", lang.ErrName},
		{states, "state y : h = x", lang.ErrFormat}, {states, "state y : s = nothing", lang.ErrName}, {states, "state y : s = {05}", api.ErrForm}, {states, "state t1 : s = 1", lang.ErrName}, {states, "state y : s = x", api.ErrLong},
		{loop, "next t0 = {05}", lang.ErrTwice}, {loop, "next t1 = h(nothing)", lang.ErrName}, {loop, "next t1 = h({05})", api.ErrForm}, {loop, "next t1 = h(1)", lang.ErrFormat}, {loop, "next t0 = h(1)", lang.ErrTwice}, {loop, "next t9 = {05}", lang.ErrName}, {loop, "next x = {05}", lang.ErrName},
	} {
		at := strings.Count(c.before, ";") + 1
		expectParse(t, lines(c.before)+c.line+"\n", at, c.e)
		// A later line makes no difference, but one without a form.
		expectParse(t, lines(c.before)+c.line+"\nmode up\n", at, c.e)
		expectParse(t, lines(c.before)+c.line+"\n%\n", at+1, lang.ErrSyntax)
	}
}

// TestP4_3_Next: each state has one next, in any order.
func TestP4_3_Next(t *testing.T) {
	const begin = "format s 8 24;state a : s = 1;state b : s = 2;loop;"
	p := program(t, begin+"next b = a;let c : s = a + b;next a = c;end;result a;")
	want := "const 1; const 2; state 0; state 1; add 2 3; state 0; state 1"
	if dump(p) != dump(api.Prog{Formats: twoFormats[:1], Nodes: nodes(t, want), Head: 2, Tail: 5, States: []api.State{{Init: 0, Next: 4}, {Init: 1, Next: 2}}, Result: 5}) {
		t.Errorf("two states: %s", dump(p))
	}
	expectParse(t, lines(begin+"next b = a;next b = a;"), 6, lang.ErrTwice)
	expectParse(t, lines(begin+"next a = b;next b = a;next a = b;"), 7, lang.ErrTwice)
	expectParse(t, lines(begin+"next a = b;end;"), 6, lang.ErrOrder)
}

// TestP4_3_Text: a text of as many bytes as the limit allows.
func TestP4_3_Text(t *testing.T) {
	text := lines("format s 8 24;let a : s = 1;result a;")
	full := text + strings.Repeat(" ", api.MaxText-len(text)-1) + "\n"
	if _, line, e := lang.Parse(full); e != api.OK || len(full) != 20000 {
		t.Errorf("%d bytes: line %d, error %d", len(full), line, e)
	}
	expectParse(t, " "+full, 0, api.ErrLong)
	expectParse(t, full+"%", 0, api.ErrLong)
}
