package lang_test

import (
	"fmt"
	"math/rand"
	"regexp"
	"slices"
	"strings"
	"testing"

	"vernier/api"
	"vernier/lang"
)

// TestP4_3_Order: lines at places where they may not be.
func TestP4_3_Order(t *testing.T) {
	for text, wantLine := range map[string]int{
		"":                                       1,
		"mode up;":                               2,
		"format s 8 24;":                         2,
		"let a : s = 1;":                         1,
		"input x : s from 0 to 1;format s 8 24;": 1,
		"state a : s = 1;":                       1,
		"result a;":                              1,
		"loop;":                                  1,
		"next a = 1;":                            1,
		"end;":                                   1,
		"mode up;mode up;format s 8 24;let a : s = 1;result a;": 2,
		"format s 8 24;mode up;let a : s = 1;result a;":         2,
		"mode up;loop;":       2,
		"format s 8 24;loop;": 2,
		"format s 8 24;let a : s = 1;loop;end;result a;":                                         3,
		"format s 8 24;let a : s = 1;end;result a;":                                              3,
		"format s 8 24;let a : s = 1;next a = 1;":                                                3,
		"format s 8 24;let a : s = 1;input x : s from 0 to 1;":                                   3,
		"format s 8 24;state a : s = 1;input x : s from 0 to 1;":                                 3,
		"format s 8 24;input x : s from 0 to 1;format h 5 11;":                                   3,
		"format s 8 24;let a : s = 1;format h 5 11;":                                             3,
		"format s 8 24;let a : s = 1;state b : s = 1;result a;":                                  4,
		"format s 8 24;state b : s = 1;end;":                                                     3,
		"format s 8 24;state b : s = 1;next b = 1;":                                              3,
		"format s 8 24;state b : s = 1;":                                                         3,
		"format s 8 24;state b : s = 1;loop;end;":                                                4,
		"format s 8 24;state b : s = 1;state c : s = 1;loop;next c = 1;end;":                     6,
		"format s 8 24;state b : s = 1;loop;loop;":                                               4,
		"format s 8 24;state b : s = 1;loop;state c : s = 1;":                                    4,
		"format s 8 24;state b : s = 1;loop;result b;":                                           4,
		"format s 8 24;state b : s = 1;loop;input x : s from 0 to 1;":                            4,
		"format s 8 24;state b : s = 1;loop;next b = b;":                                         5,
		"format s 8 24;state b : s = 1;loop;next b = b;end;":                                     6,
		"format s 8 24;state b : s = 1;loop;next b = b;end;end;":                                 6,
		"format s 8 24;state b : s = 1;loop;next b = b;end;loop;":                                6,
		"format s 8 24;state b : s = 1;loop;next b = b;end;next b = b;":                          6,
		"format s 8 24;state b : s = 1;loop;next b = b;end;state c : s = 1;":                     6,
		"format s 8 24;state b : s = 1;loop;next b = b;end;mode up;result b;":                    6,
		"format s 8 24;let a : s = 1;result a;result a;":                                         4,
		"format s 8 24;let a : s = 1;result a;let b : s = 1;":                                    4,
		"format s 8 24;let a : s = 1;result a;mode up;":                                          4,
		"format s 8 24;let a : s = 1;result a;state c : s = 1;":                                  4,
		"format s 8 24;let a : s = 1;result a;loop;":                                             4,
		"format s 8 24;state b : s = 1;loop;next b = b;end;result b;end;":                        7,
		"format s 8 24;state b : s = 1;loop;next b = b;end;result b;let c : s = b;":              7,
		";;mode up;;;format s 8 24;;let a : s = 1;;;":                                            11,
		";;mode up;;;format s 8 24;;let a : s = 1;;;mode up;":                                    11,
		"format s 8 24;let a : s = 1;loop;let a : s = 1;let b : nothing = {05};result nothing;":  3,
		"format s 8 24;input x : s from 0 to 1;let a : s = x;result a;input x : h from {} to 1;": 5,
	} {
		wantE := lang.ErrOrder
		if strings.Contains(text, "{}") {
			wantE = lang.ErrSyntax
		}
		expectParse(t, lines(text), wantLine, wantE)
	}
}

// orderLines has a line for each letter: m, f, i, l (let), s (state), b (loop), n
// (next), e (end), r.
func orderLines(letters string) string {
	var out []string
	states, nexts, format := 0, 0, max(0, strings.Index(letters, "f"))
	for i, letter := range letters {
		switch letter {
		case 'm':
			out = append(out, "mode up")
		case 'f':
			out = append(out, fmt.Sprintf("format f%d 8 24", i))
		case 'i':
			out = append(out, fmt.Sprintf("input i%d : f%d from 0 to 1", i, format))
		case 'l':
			out = append(out, fmt.Sprintf("let l%d : f%d = 1", i, format))
		case 's':
			out = append(out, fmt.Sprintf("state s%d : f%d = 1", states, format))
			states++
		case 'b':
			out = append(out, "loop")
		case 'n':
			out = append(out, fmt.Sprintf("next s%d = 1", nexts))
			nexts++
		case 'e':
			out = append(out, "end")
		case 'r':
			out = append(out, "result nothing")
		}
	}
	return strings.Join(append(out, ""), "\n")
}

var wholeOrder = regexp.MustCompile(`^m?f+i*(l*|[ls]*s[ls]*b[ln]*el*)r$`)

// mayBegin tells whether a program may begin with lines like these: whether
// anything makes them a whole one.
func mayBegin(letters string) bool {
	states, nexts := strings.Count(letters, "s"), strings.Count(letters, "n")
	if nexts > states {
		return false
	}
	missing := strings.Repeat("n", states-nexts)
	for _, after := range []string{"", "r", "fr", "b" + missing + "er", missing + "er"} {
		whole := letters + after
		loop, end := strings.Index(whole, "b"), strings.Index(whole, "e")
		if wholeOrder.MatchString(whole) && (loop < 0 || strings.Count(whole[loop:end], "n") == states) {
			return true
		}
	}
	return false
}

// hasStates tells whether each next has a state of its own before it.
func hasStates(letters string) bool {
	for i := range letters {
		if strings.Count(letters[:i+1], "n") > strings.Count(letters[:i+1], "s") {
			return false
		}
	}
	return true
}

// TestP4_3_OrderAll: the first line of all short lists, and of long ones, that may
// not be at its place.
func TestP4_3_OrderAll(t *testing.T) {
	expect := func(letters string) {
		t.Helper()
		want, wantE := 0, lang.ErrOrder
		for want < len(letters) && mayBegin(letters[:want+1]) {
			want++
			if letters[want-1] == 'r' { // the order is right, but the name is not
				wantE = lang.ErrName
				break
			}
		}
		if wantE == lang.ErrOrder {
			want++
		}
		_, line, e := lang.Parse(orderLines(letters))
		if line != want || e != wantE {
			t.Errorf("%s: line %d, error %d, want line %d, error %d", letters, line, e, want, wantE)
		}
	}
	const kinds = "mfilsbner"
	var all func(letters string)
	all = func(letters string) {
		if !hasStates(letters) {
			return // this is another error than that of the order
		}
		expect(letters)
		if len(letters) < 5 {
			for _, k := range kinds {
				all(letters + string(k))
			}
		}
	}
	all("")
	random := rand.New(rand.NewSource(34))
	for range 20000 {
		letters := ""
		for range 4 + random.Intn(12) {
			next := string(kinds[random.Intn(len(kinds))])
			for tries := 0; tries < 6 && !mayBegin(letters+next); tries++ {
				next = string(kinds[random.Intn(len(kinds))])
			}
			letters += next
			if next == "r" {
				break
			}
		}
		if hasStates(letters) && strings.Count(letters, "s") <= 4 && strings.Count(letters, "f") <= 6 && strings.Count(letters, "i") <= 6 {
			expect(letters)
		}
	}
}

// TestP4_3_Names: names that are taken, and names that mean nothing where they
// are. The last line of each text is the one.
func TestP4_3_Names(t *testing.T) {
	const begin = "format s 8 24;input x : s from 0 to 1;let a : s = x;state t : s = a;"
	const loop = begin + "loop;let b : s = t + a;next t = b;"
	const rest = loop + "end;let c : s = t;"
	for _, text := range []string{
		"format s 8 24;format s 5 11;",
		"format s 8 24;input s : s from 0 to 1;", "format s 8 24;input x : s from 0 to 1;input x : s from 0 to 1;",
		"format s 8 24;let s : s = 1;", begin + "let x : s = 1;", begin + "let a : s = 1;", begin + "let t : s = 1;",
		begin + "state s : s = 1;", begin + "state x : s = 1;", begin + "state a : s = 1;", begin + "state t : s = 1;",
		loop + "let s : s = 1;", loop + "let x : s = 1;", loop + "let a : s = 1;", loop + "let t : s = 1;", loop + "let b : s = 1;",
		rest + "let s : s = 1;", rest + "let x : s = 1;", rest + "let a : s = 1;", rest + "let t : s = 1;", rest + "let b : s = 1;", rest + "let c : s = 1;",

		"format s 8 24;input x : h from 0 to 1;", "format s 8 24;input x : x from 0 to 1;", begin + "let z : x = 1;", begin + "let z : t = 1;", begin + "state z : a = 1;", begin + "let z : z = 1;", begin + "let z : even = 1;",
		begin + "let z : s = x(1);", begin + "let z : s = f(1);", begin + "let z : s = t(1);", begin + "let z : s = z(1);", begin + "loop;next t = a(1);", rest + "let z : s = 1 + a(2);",

		begin + "let z : s = z;", begin + "let z : s = s;", begin + "let z : s = t;", begin + "state z : s = t;", begin + "state z : s = z;", begin + "let z : s = 1 + (x * min(a, y));", begin + "let z : s = if a <= b then 1 else 1;",
		loop + "let z : s = z;", loop + "let z : s = s;", loop + "let z : s = c;", rest + "let z : s = b;", rest + "let z : s = s;", rest + "let z : s = z;", rest + "let z : s = d;",

		loop + "next x = 1;", loop + "next a = 1;", loop + "next b = 1;", loop + "next s = 1;", loop + "next nothing = 1;",
		"format s 8 24;result s;", "format s 8 24;let a : s = 1;result b;", rest + "result b;", rest + "result s;", rest + "result nothing;",
	} {
		expectParse(t, lines(text), strings.Count(text, ";"), lang.ErrName)
	}
	expectParse(t, lines(loop+"next t = nothing;"), strings.Count(loop, ";")+1, lang.ErrTwice)
	p := program(t, rest+"let d : s = x + a * t - c;result d;")
	want := "input 0; state 0; add 1 0; state 0; mul 0 3; add 0 4; sub 5 3"
	if !slices.Equal(p.Nodes, nodes(t, want)) || p.Head != 1 || p.Tail != 3 || p.Result != 6 || p.States[0] != (api.State{Init: 0, Next: 2}) {
		t.Errorf("names of all sections: %s", dump(p))
	}
	for _, name := range []string{"x", "a", "t", "c"} {
		program(t, rest+"result "+name+";")
	}
}

// TestP4_3_NamesOfNodes: a name appends nothing; that of a state is another node
// in each section.
func TestP4_3_NamesOfNodes(t *testing.T) {
	p := program(t, "format s 8 24;format h 5 11;input x : s from 0 to 1;let a : s = x;let b : s = (a);let k : h = 2;state t : s = b;state u : h = k;"+
		"loop;let c : s = t;let d : h = u;next u = d;let e : s = s(u);next t = e + c;end;let f : s = t;let g : h = u;let o : h = h(f) - g;result o;")
	want := draft(t, "input 0; const@1 2", "state 0; state@1 1; cast 3; add 4 2", "state 0; state@1 1; cast@1 6; sub@1 8 7", "0 5; 1 3", 9)
	want.Inputs = []api.Input{{Format: 0, Lo: "0", Hi: "1"}}
	expectProg(t, "the program", want, api.OK)(p, api.OK)
	p = program(t, "format s 8 24;input x : s from 0 to 1;state t : s = x;loop;next t = x;end;result t;")
	want = api.Prog{Formats: twoFormats[:1], Inputs: want.Inputs, Nodes: nodes(t, "input 0; state 0; state 0"), Head: 1, Tail: 2, States: []api.State{{}}, Result: 2}
	expectProg(t, "a state that is the input", want, api.OK)(p, api.OK)
	p = program(t, "mode down;format s 8 24;input x : s from 0 to 1;result x;")
	want = api.Prog{Formats: twoFormats[:1], Mode: api.RnDown, Inputs: want.Inputs, Nodes: nodes(t, "input 0"), Head: 1, Tail: 1}
	expectProg(t, "the input alone", want, api.OK)(p, api.OK)
}

// TestP4_3_Modes: the words of the modes.
func TestP4_3_Modes(t *testing.T) {
	for mode, word := range []string{"even", "away", "zero", "up", "down"} {
		if p := program(t, "mode "+word+";format s 8 24;let a : s = 1;result a;"); p.Mode != mode {
			t.Errorf("%s: %d", word, p.Mode)
		}
	}
	if p := program(t, "format s 8 24;let a : s = 1;result a;"); p.Mode != api.RnEven {
		t.Errorf("no mode: %d", p.Mode)
	}
}

// TestP4_3_Numbers: what numbers stand for, and too many digits.
func TestP4_3_Numbers(t *testing.T) {
	for text, want := range map[string]string{
		"0": "0", "000": "0", "0.0": "0", "5": "5", "007": "7", "1.5": "3/2", "01.50": "3/2", "0.1": "1/10", "12.000": "12", "0.125": "1/8", "3.3333": "33333/10000",
		"{0}": "0", "{-1/3}": "-1/3", "{22/7}": "22/7", "123456789012345678901234567890.5": "246913578024691357802469135781/2",
		strings.Repeat("9", 2000):              strings.Repeat("9", 2000),
		"0." + strings.Repeat("0", 1998) + "1": "1/1" + strings.Repeat("0", 1999),
		strings.Repeat("0", 1999) + "1":        "1",
		"{-" + strings.Repeat("9", 2000) + "}": "-" + strings.Repeat("9", 2000),
	} {
		p := program(t, "format s 8 24;let a : s = "+text+";result a;")
		if len(p.Nodes) != 1 || p.Nodes[0] != (api.Node{Op: api.OpConst, Value: api.Rat(want)}) {
			t.Errorf("%.50s: %.100s", text, dump(p))
		}
	}
	for _, text := range []string{
		strings.Repeat("9", 2001), strings.Repeat("0", 2001), "0." + strings.Repeat("0", 2000), strings.Repeat("0", 2000) + ".0", "{" + strings.Repeat("9", 2001) + "}", "{1/" + strings.Repeat("9", 2001) + "}",
	} {
		expectParse(t, lines("format s 8 24;let b : s = 1;let a : s = 1 + "+text+";"), 3, api.ErrLong)
		expectParse(t, lines("format s 8 24;input x : s from -"+text+" to 1;"), 2, api.ErrLong)
		expectParse(t, lines("format s 8 24;input x : s from 1 to "+text+";"), 2, api.ErrLong)
	}
	zeros := strings.Repeat("0", 1999)
	if p := program(t, "format s "+zeros+"8 "+zeros[1:]+"24;let a : s = 1;result a;"); p.Formats[0] != (api.Format{E: 8, P: 24}) {
		t.Errorf("zeros before bits: %v", p.Formats)
	}
	expectParse(t, lines("format s "+zeros+"08 24;"), 1, api.ErrLong)
	expectParse(t, lines("format s 8 "+zeros+"024;"), 1, api.ErrLong)
	expectParse(t, lines("format s "+zeros+"08 999;"), 1, api.ErrLong)
	expectParse(t, lines("format s 8 "+zeros+"0999;"), 1, api.ErrRange)
}

// TestP4_3_Boxes: ends of boxes.
func TestP4_3_Boxes(t *testing.T) {
	for text, want := range map[string]api.Input{
		"from 0 to 1":                 {Lo: "0", Hi: "1"},
		"from - 1.50 to -{-1/2}":      {Lo: "-3/2", Hi: "1/2"},
		"from {-5} to -4.0":           {Lo: "-5", Hi: "-4"},
		"from -0 to - 0.0":            {Lo: "0", Hi: "0"},
		"from 16777216 to 16777218":   {Lo: "16777216", Hi: "16777218"},
		"from -{1/1024} to {1/1024}":  {Lo: "-1/1024", Hi: "1/1024"},
		"from 0.0009765625 to 65536.": {},
	} {
		line := "format s 8 24;input x : s " + text + ";result x;"
		if (want == api.Input{}) {
			expectParse(t, lines(line), 2, lang.ErrSyntax)
		} else if p := program(t, line); p.Inputs[0] != want {
			t.Errorf("%s: %v", text, p.Inputs)
		}
	}
	for text, wantE := range map[string]api.Errno{
		"from 0.1 to 1": api.ErrRange, "from 0 to {1/3}": api.ErrRange, "from 0 to 16777217": api.ErrRange, "from -16777217 to 0": api.ErrRange,
		"from 1 to 0": api.ErrRange, "from 0 to -1": api.ErrRange, "from -1 to -{1025/1024}": api.ErrRange,
		"from {2/4} to {1/3}": api.ErrForm, "from {1/3} to {2/4}": api.ErrRange, "from 1 to {-0}": api.ErrForm,
		"from 0.1 to " + strings.Repeat("9", 2001): api.ErrRange, "from 0 to " + strings.Repeat("9", 2000): api.ErrRange,
	} {
		expectParse(t, lines("format s 8 24;input x : s "+text+";"), 2, wantE)
	}
}

// TestP4_3_Formats: the format of each node, and that of a line.
func TestP4_3_Formats(t *testing.T) {
	const begin = "format s 8 24;format h 5 11;format q 3 3;input x : s from 0 to 1;input y : h from 0 to 1;"
	p := program(t, begin+"let a : q = q(h(x + 1) * s(y - {2})) / - 3 + sqrt(h(s(x)));result a;")
	want := "input 0; input@1 1; const@1 1; add@1 0 2; cast@1 3; const 2; sub 1 5; cast 6; mul@2 4 7; cast@2 8;" +
		"const@2 3; neg@2 10; div@2 9 11; cast 0; cast@1 13; sqrt@2 14; add@2 12 15"
	if !slices.Equal(p.Nodes, nodes(t, want)) || p.Result != 16 {
		t.Errorf("casts: %s", dump(p))
	}
	for _, line := range []string{
		"let a : h = x;", "let a : s = y;", "let a : h = (((x)));", "let a : s = h(x);", "let a : s = h(1);", "let a : s = (h(s(x)));",
		"state a : h = x;", "state a : s = h(x);", "let b : h = 1;let a : s = b;",
	} {
		expectParse(t, lines(begin+line), strings.Count(begin+line, ";"), lang.ErrFormat)
	}
	for _, line := range []string{
		"let a : h = x + x;", "let a : h = -x;", "let a : h = h(x);", "let a : h = y;", "let a : s = min(y, h(y));", "let a : s = if y <= h(y) then y else y;", "let a : s = abs(y);", "let a : h = 1;", "let a : h = {1/3};",
	} {
		program(t, begin+line+"result a;")
	}
	const loop = begin + "let k : h = 1;state t : s = x;state u : h = k;loop;"
	for _, line := range []string{"next t = y;", "next t = u;", "next u = t;", "next u = s(u);", "next t = (h(t));", "let a : h = t;", "let a : s = k;"} {
		expectParse(t, lines(loop+line), strings.Count(loop, ";")+1, lang.ErrFormat)
	}
	expectParse(t, lines(loop+"next t = t;next u = y;end;let a : s = u;"), 13, lang.ErrFormat)
	p = program(t, loop+"next t = u + x;next u = h(t) * 2;end;let a : q = - t;result a;")
	want = "input 0; input@1 1; const@1 1; state 0; state@1 1; add 4 0; cast@1 3; const@1 2; mul@1 6 7; state 0; state@1 1; neg@2 9"
	if !slices.Equal(p.Nodes, nodes(t, want)) {
		t.Errorf("formats of states: %s", dump(p))
	}
}
