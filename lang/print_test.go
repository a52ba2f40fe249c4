package lang_test

import (
	"math/rand"
	"slices"
	"strings"
	"testing"

	"vernier/api"
	"vernier/lang"
)

func expectPrint(t *testing.T, what, want string, wantE api.Errno) func(string, api.Errno) {
	return func(text string, e api.Errno) {
		t.Helper()
		if text != want || e != wantE {
			t.Errorf("%s: error %d\n%s\nwant error %d\n%s", what, e, text, wantE, want)
		}
	}
}

// TestP4_4_Operations: how each operation is written.
func TestP4_4_Operations(t *testing.T) {
	p := draft(t, "input 0; input@1 1; const -1/3; neg@1 2; abs 3; sqrt 4; cast@1 5; add 2 6; sub 6 7; mul 0 8; div 9 0; min 10 1; max 2 11; fma 10 11 12; sel 13 11 0 1", "", "", "", 14)
	want := "mode even;format f0 8 24;format f1 5 11;input x0 : f0 from {-1} to {3/2};input x1 : f1 from {0} to {5};" +
		"let n2 : f0 = {-1/3};let n3 : f1 = - n2;let n4 : f0 = abs(n3);let n5 : f0 = sqrt(n4);let n6 : f1 = f1(n5);let n7 : f0 = n2 + n6;let n8 : f0 = n6 - n7;" +
		"let n9 : f0 = x0 * n8;let n10 : f0 = n9 / x0;let n11 : f0 = min(n10, x1);let n12 : f0 = max(n2, n11);let n13 : f0 = fma(n10, n11, n12);let n14 : f0 = if n13 <= n11 then x0 else x1;result n14;"
	expectPrint(t, "all operations", lines(want), api.OK)(lang.Print(valid(t, p)))

	for mode, word := range []string{"even", "away", "zero", "up", "down"} {
		p := api.Prog{Mode: mode, Formats: []api.Format{{E: 11, P: 113}}, Nodes: nodes(t, "const 0"), Head: 1, Tail: 1}
		expectPrint(t, word, "mode "+word+"\nformat f0 11 113\nlet n0 : f0 = {0}\nresult n0\n", api.OK)(lang.Print(p))
	}
	p.Result = 1
	want = "mode even;format f0 8 24;format f1 5 11;input x0 : f0 from {-1} to {3/2};input x1 : f1 from {0} to {5};result x1;"
	expectPrint(t, "an input alone", lines(want), api.OK)(lang.Print(p))
}

// TestP4_4_Loops: states and sections; what is not needed is not written.
func TestP4_4_Loops(t *testing.T) {
	head := "const 9; input@1 1; cast 1; const@1 2"
	body := "state@1 0; state 1; add 5 4; neg 5; sqrt 7; input 0; cast@1 8"
	rest := "state 1; mul 11 11; state@1 0; neg@1 13; sub 12 2"
	p := draft(t, head, body, rest, "3 10; 2 6", 15)
	want := "mode even;format f0 8 24;format f1 5 11;input x0 : f0 from {-1} to {3/2};input x1 : f1 from {0} to {5};let n2 : f0 = f0(x1);let n3 : f1 = {2};" +
		"state s0 : f1 = n3;state s1 : f0 = n2;loop;let n6 : f0 = s1 + s0;let n7 : f0 = - s1;let n8 : f0 = sqrt(n7);let n9 : f1 = f1(n8);next s0 = n9;next s1 = n6;end;" +
		"let n12 : f0 = s1 * s1;let n13 : f0 = n12 - n2;result n13;"
	expectPrint(t, "two states", lines(want), api.OK)(lang.Print(valid(t, p)))
	p.Result = 2
	want = "mode even;format f0 8 24;format f1 5 11;input x0 : f0 from {-1} to {3/2};input x1 : f1 from {0} to {5};let n2 : f0 = f0(x1);result n2;"
	expectPrint(t, "no state is left", lines(want), api.OK)(lang.Print(valid(t, p)))

	p = draft(t, "input 0; const 1", "state 0; state 1", "state 0", "0 3; 1 0", 4)
	want = "mode even;format f0 8 24;format f1 5 11;input x0 : f0 from {-1} to {3/2};input x1 : f1 from {0} to {5};let n2 : f0 = {1};" +
		"state s0 : f0 = x0;state s1 : f0 = n2;loop;next s0 = s1;next s1 = x0;end;result s0;"
	expectPrint(t, "states that go round", lines(want), api.OK)(lang.Print(valid(t, p)))
}

// TestP4_4_Long: a text of as many bytes as the limit allows, and of one more.
func TestP4_4_Long(t *testing.T) {
	sum := draft(t, strings.Repeat("const 1;", 11)+"add 0 1; add 11 2; add 12 3; add 13 4; add 14 5; add 15 6; add 16 7; add 17 8; add 18 9; add 19 10", "", "", "", 20)
	for i := range 11 {
		sum.Nodes[i].Value = api.Rat(strings.Repeat("1", 1700) + string("123456789"[i%9]) + strings.Repeat("1", i))
	}
	text, e := lang.Print(valid(t, sum))
	if e != api.OK {
		t.Fatalf("Print: error %d", e)
	}
	more := strings.Repeat("7", api.MaxText-len(text))
	sum.Nodes[0].Value += api.Rat(more[:200])
	sum.Nodes[1].Value += api.Rat(more[200:400])
	sum.Nodes[2].Value += api.Rat(more[400:])
	full, e := lang.Print(valid(t, sum))
	if len(full) != 20000 || e != api.OK {
		t.Errorf("a full text: %d bytes, error %d", len(full), e)
	}
	if p, line, e := lang.Parse(full); e != api.OK || len(p.Nodes) != 23 {
		t.Errorf("it is not parsed: line %d, error %d", line, e)
	}
	sum.Nodes[3].Value += "7"
	expectPrint(t, "a byte more", "", api.ErrLong)(lang.Print(valid(t, sum)))
	sum.Result = 19
	if _, e := lang.Print(valid(t, sum)); e != api.OK {
		t.Errorf("without the last constant: error %d", e)
	}
}

// TestP4_8_Texts: Parse of the text is the canonical form, whose text is the same.
func TestP4_8_Texts(t *testing.T) {
	random := rand.New(rand.NewSource(84))
	texts := map[string]string{}
	forms := map[string]string{}
	for range 8000 {
		p := randomProgram(t, random)
		q, _, e := lang.Canon(p)
		if e != api.OK {
			t.Fatalf("Canon: error %d", e)
		}
		text, e := lang.Print(p)
		if e != api.OK {
			t.Fatalf("Print: error %d", e)
		}
		back, line, e := lang.Parse(text)
		if e != api.OK || line != 0 || !lang.Same(back, q) || dump(back) != dump(q) {
			t.Fatalf("%s: line %d, error %d\n%s\nwant\n%s", text, line, e, dump(back), dump(q))
		}
		expectPrint(t, "the canonical form", text, api.OK)(lang.Print(back))
		form := dump(q)
		if texts[form] != "" && texts[form] != text || forms[text] != "" && forms[text] != form {
			t.Fatalf("the same text for other forms, or another one for the same:\n%s\n%s\n%s\n%s", text, texts[form], form, forms[text])
		}
		texts[form], forms[text] = text, form
	}
}

// TestP4_8_OtherTexts: programs that are written in other ways have the same
// canonical text.
func TestP4_8_OtherTexts(t *testing.T) {
	want := "mode even;format f0 8 24;input x0 : f0 from {0} to {1};let n1 : f0 = {1/2};let n2 : f0 = x0 * n1;state s0 : f0 = n2;loop;let n4 : f0 = s0 + n2;next s0 = n4;end;let n6 : f0 = - s0;result n6;"
	for _, text := range []string{
		want,
		"format f0 8 24;input x0 : f0 from 0 to 1;state s : f0 = x0*0.5;loop;next s = s+x0*{1/2};end;let r : f0 = -s;result r;",
		"  format  a   008 24  ;; input b:a from -0 to 1.0;let unused : a = sqrt(b);let c:a=b*0.50;state n : a = 3;state s : a = c;loop;next n = n + s;let u:a=s+c;let v:a=s+c;next s = v;end;let r:a=-s;let q:a=-s;let w:a=-n;result q;",
	} {
		expectPrint(t, text, lines(want), api.OK)(lang.Print(program(t, text)))
	}
	first := program(t, want)
	for _, other := range []string{"{1/2}", "x0 * n1", "s0 + n2", "- s0", "{0}", "{1};", "8 24", "mode even"} {
		changed := map[string]string{"{1/2}": "{1/4}", "x0 * n1": "n1 * x0", "s0 + n2": "n2 + s0", "- s0": "abs(s0)", "{0}": "{-1}", "{1};": "{2};", "8 24": "8 25", "mode even": "mode up"}[other]
		p := program(t, strings.Replace(want, other, changed, 1))
		text, e := lang.Print(p)
		if e != api.OK || text == lines(want) || lang.Same(p, first) {
			t.Errorf("%s for %s makes no difference: error %d", changed, other, e)
		}
	}
	if !slices.Equal(first.Nodes, nodes(t, "input 0; const 1/2; mul 0 1; state 0; add 3 2; state 0; neg 5")) {
		t.Errorf("the program: %s", dump(first))
	}
}
