package lang_test

import (
	"testing"

	"vernier/api"
	"vernier/lang"
)

const newton = "format s 8 24; input x : s from 1 to 2; state t : s = x; loop; next t = (t + x / t) / 2; end; result t;"

// TestP4_Examples: the chapter's table.
func TestP4_Examples(t *testing.T) {
	p := program(t, newton)
	want := api.Prog{
		Formats: []api.Format{{E: 8, P: 24}},
		Inputs:  []api.Input{{Format: 0, Lo: "1", Hi: "2"}},
		Nodes:   nodes(t, "input 0; state 0; div 0 1; add 1 2; const 2; div 3 4; state 0"),
		Head:    1,
		Tail:    6,
		States:  []api.State{{Init: 0, Next: 5}},
		Result:  6,
	}
	expectProg(t, "Parse", want, api.OK)(p, api.OK)
	text := "mode even;format f0 8 24;input x0 : f0 from {1} to {2};state s0 : f0 = x0;loop;let n2 : f0 = x0 / s0;let n3 : f0 = s0 + n2;let n4 : f0 = {2};let n5 : f0 = n3 / n4;next s0 = n5;end;result s0;"
	expectPrint(t, "Print", lines(text), api.OK)(lang.Print(p))

	want.Nodes, want.Head, want.Tail, want.States, want.Result = nodes(t, "input 0; div 0 0; add 0 1; const 2; div 2 3"), 5, 5, nil, 4
	expectProg(t, "Unroll", want, api.OK)(lang.Unroll(p, 1))
	expectParse(t, lines("result y;"), 1, lang.ErrOrder)
	expectParse(t, lines("format s 8 24;"), 2, lang.ErrOrder)
	expectParse(t, lines("format s 8;"), 1, lang.ErrSyntax)
}

// TestExamples_Bench: the programs of the document's examples.
func TestExamples_Bench(t *testing.T) {
	p := program(t, "format h 5 11; input x : h from 0 to 1; let a : h = x + 1; let b : h = a - 1; result b;")
	if len(p.Nodes) != 5 {
		t.Errorf("S has %d nodes", len(p.Nodes))
	}
	show := "mode even;format f0 5 11;input x0 : f0 from {0} to {1};let n1 : f0 = {1};let n2 : f0 = x0 + n1;let n3 : f0 = n2 - n1;result n3;"
	expectPrint(t, "S", lines(show), api.OK)(lang.Print(p))
	p = program(t, "format h 5 11;format s 8 24;input x : s from 1 to 2;let a : s = x * x;result a;")
	expectPrint(t, "Q", lines("mode even;format f0 5 11;format f1 8 24;input x0 : f1 from {1} to {2};let n1 : f1 = x0 * x0;result n1;"), api.OK)(lang.Print(p))
	p = program(t, "format f 2 3; input x : f from 0 to 3; let a : f = x * x; result a;")
	expectPrint(t, "F", lines("mode even;format f0 2 3;input x0 : f0 from {0} to {3};let n1 : f0 = x0 * x0;result n1;"), api.OK)(lang.Print(p))
	p = program(t, "format s 8 24;input x : s from 0 to 4;let a : s = sqrt(x);let b : s = 1 / a;result b;")
	expectPrint(t, "root", lines("mode even;format f0 8 24;input x0 : f0 from {0} to {4};let n1 : f0 = sqrt(x0);let n2 : f0 = {1};let n3 : f0 = n2 / n1;result n3;"), api.OK)(lang.Print(p))
}
