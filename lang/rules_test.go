package lang_test

import (
	"math"
	"math/rand"
	"slices"
	"strings"
	"testing"

	"vernier/api"
	"vernier/lang"
)

// call is a call of a function with a program, with other arguments that lead to
// its own error, if bad is true.
type call struct {
	name string
	do   func(p api.Prog, bad bool) (zero bool, e api.Errno)
}

func progOnly(p api.Prog, e api.Errno) (bool, api.Errno) { return isZero(p), e }

// calls returns calls of all functions that return the error of Check first.
func calls() []call {
	return []call{
		{"Needs", func(p api.Prog, _ bool) (bool, api.Errno) {
			nodes, states, e := lang.Needs(p)
			return len(nodes)+len(states) == 0, e
		}},
		{"Canon", func(p api.Prog, _ bool) (bool, api.Errno) {
			q, nodes, e := lang.Canon(p)
			return isZero(q) && len(nodes) == 0, e
		}},
		{"Print", func(p api.Prog, _ bool) (bool, api.Errno) {
			text, e := lang.Print(p)
			return text == "", e
		}},
		{"Sub", func(p api.Prog, bad bool) (bool, api.Errno) {
			if bad {
				return progOnly(lang.Sub(p, -1))
			}
			return progOnly(lang.Sub(p, p.Result))
		}},
		{"Unroll", func(p api.Prog, bad bool) (bool, api.Errno) {
			if bad {
				return progOnly(lang.Unroll(p, math.MaxInt))
			}
			return progOnly(lang.Unroll(p, 1))
		}},
		{"With", func(p api.Prog, bad bool) (bool, api.Errno) {
			formats := make([]int, len(p.Nodes))
			if bad {
				formats = append(formats, 0)
			}
			for i, n := range p.Nodes {
				formats[i] = n.Format
			}
			return progOnly(lang.With(p, formats))
		}},
		{"Box", func(p api.Prog, bad bool) (bool, api.Errno) {
			var lo, hi []api.Rat
			for _, in := range p.Inputs {
				lo, hi = append(lo, in.Lo), append(hi, in.Hi)
			}
			if bad {
				lo = append(lo, "0")
			}
			return progOnly(lang.Box(p, lo, hi))
		}},
		{"Section", func(p api.Prog, bad bool) (bool, api.Errno) {
			node := p.Result
			if bad {
				node = math.MinInt
			}
			section, e := lang.Section(p, node)
			return section == 0, e
		}},
	}
}

// TestP1_ErrorOfCheck: the error of Check comes first, and other results are zero.
func TestP1_ErrorOfCheck(t *testing.T) {
	for i, x := range edits() {
		p := sample(t)
		x.do(&p)
		for _, c := range calls() {
			for _, bad := range []bool{false, true} {
				if zero, e := c.do(p, bad); !zero || e != x.e {
					t.Errorf("%s after the edit %d: zero %v, error %d, want %d", c.name, i, zero, e, x.e)
				}
			}
		}
	}
	for _, c := range calls() {
		if zero, e := c.do(sample(t), false); zero || e != api.OK {
			t.Errorf("%s of the sample: zero %v, error %d", c.name, zero, e)
		}
	}
}

// wild returns programs of which few are valid.
func wild(t *testing.T, random *rand.Rand) api.Prog {
	numbers := []int{0, 1, 2, 3, 5, 7, 64, -1, math.MinInt, math.MaxInt}
	texts := []api.Rat{"", "0", "1", "-1/2", "2/4", "x", "\xff"}
	number := func() int { return numbers[random.Intn(len(numbers))] }
	text := func() api.Rat { return texts[random.Intn(len(texts))] }
	p := randomProgram(t, random)
	for range random.Intn(4) {
		switch random.Intn(9) {
		case 0:
			p.Formats = append(p.Formats, api.Format{E: number(), P: number()})
		case 1:
			p.Mode = number()
		case 2:
			p.Inputs = append(p.Inputs, api.Input{Format: number(), Lo: text(), Hi: text()})
		case 3:
			p.Nodes = append(p.Nodes, api.Node{Op: number(), A: number(), B: number(), C: number(), D: number(), Format: number(), Value: text()})
		case 4:
			n := &p.Nodes[random.Intn(len(p.Nodes))]
			*[]*int{&n.Op, &n.A, &n.B, &n.C, &n.D, &n.Format}[random.Intn(6)] = number()
		case 5:
			p.Head = number()
		case 6:
			p.Tail = number()
		case 7:
			p.States = append(p.States, api.State{Init: number(), Next: number()})
		case 8:
			p.Result = number()
		}
	}
	return p
}

// TestP4_11_AnyProgram: programs of all kinds come to an end, and with an error the
// other results are zero.
func TestP4_11_AnyProgram(t *testing.T) {
	random := rand.New(rand.NewSource(11))
	good, bad := 0, 0
	for range 10000 {
		p := wild(t, random)
		before := dump(p)
		part, at, e := lang.Check(p)
		if e == api.OK && (part != 0 || at != 0) || part < 0 || part > 5 || at < 0 {
			t.Errorf("Check: %d, %d, error %d", part, at, e)
		}
		if e == api.OK {
			good++
		} else {
			bad++
		}
		for _, c := range calls() {
			for _, odd := range []bool{false, true} {
				zero, f := c.do(p, odd)
				if f != api.OK && !zero || e != api.OK && f != e {
					t.Errorf("%s of %s: zero %v, error %d, want %d", c.name, before, zero, f, e)
				}
			}
		}
		if !lang.Same(p, p) || dump(p) != before {
			t.Errorf("a program has become another one: %s, %s", before, dump(p))
		}
	}
	if good < 1000 || bad < 1000 {
		t.Errorf("only %d are valid, and %d are not", good, bad)
	}
}

// TestP4_11_AnyText: texts of all kinds come to an end; what is parsed is valid.
func TestP4_11_AnyText(t *testing.T) {
	random := rand.New(rand.NewSource(12))
	pieces := []string{" ", "\n", "x0", "f0", "n1", "=", ":", "{", "}", "{1}", "(", ")", "<=", "if", "then", "let", "loop", "end", "next", "state", "result", "-", "\x00", "\xff", "\u00e9", "1.5", "9", "abs(", ","}
	counts := map[api.Errno]int{}
	for range 20000 {
		text, e := lang.Print(randomProgram(t, random))
		if e != api.OK {
			t.Fatalf("Print: error %d", e)
		}
		for range random.Intn(3) {
			from := random.Intn(len(text) + 1)
			to := min(len(text), from+random.Intn(4)*random.Intn(10))
			text = text[:from] + pieces[random.Intn(len(pieces))] + text[to:]
		}
		if all := strings.SplitAfter(text, "\n"); random.Intn(3) == 0 {
			i, j := random.Intn(len(all)), random.Intn(len(all))
			switch random.Intn(3) {
			case 0:
				all[i], all[j] = all[j], all[i]
			case 1:
				all = slices.Insert(all, i, all[j])
			case 2:
				all = slices.Delete(all, i, i+1)
			}
			text = strings.Join(all, "")
		}
		p, line, e := lang.Parse(text)
		counts[e]++
		if e == api.OK {
			if valid(t, p); line != 0 {
				t.Fatalf("line %d without an error", line)
			}
		} else if !isZero(p) || line < 0 || line > 100 {
			t.Fatalf("%q: line %d, error %d, %s", text, line, e, dump(p))
		}
	}
	for _, e := range []api.Errno{api.OK, lang.ErrSyntax, lang.ErrName, lang.ErrOrder} {
		if counts[e] < 100 {
			t.Errorf("only %d with the error %d", counts[e], e)
		}
	}
	for range 20000 {
		text := make([]byte, random.Intn(40))
		for i := range text {
			text[i] = byte(random.Intn(256))
		}
		if p, _, e := lang.Parse(string(text)); e == api.OK || !isZero(p) {
			t.Errorf("%q: error %d", text, e)
		}
	}
}

// spoil changes all memory that a program has.
func spoil(p api.Prog) {
	clear(p.Formats[:cap(p.Formats)])
	clear(p.Inputs[:cap(p.Inputs)])
	clear(p.Nodes[:cap(p.Nodes)])
	clear(p.States[:cap(p.States)])
}

// TestR4_Memory: no result shares memory with an argument, and no argument is
// changed.
func TestR4_Memory(t *testing.T) {
	loop, alone := sample(t), draft(t, "input 0; input@1 1; neg 0", "", "", "", 2)
	for _, p := range []api.Prog{loop, alone} {
		p.Formats, p.Inputs, p.Nodes, p.States = slices.Grow(p.Formats, 9), slices.Grow(p.Inputs, 9), slices.Grow(p.Nodes, 90), slices.Grow(p.States, 9)
		room := p.Nodes[:cap(p.Nodes)]
		before := dump(p)
		var formats []int
		var lo, hi []api.Rat
		for _, n := range p.Nodes {
			formats = append(formats, n.Format)
		}
		for _, in := range p.Inputs {
			lo, hi = append(lo, in.Lo), append(hi, in.Hi)
		}
		args := slices.Concat([]int(nil), formats)
		canon, stands, _ := lang.Canon(p)
		again, _, _ := lang.Canon(canon)
		sub, _ := lang.Sub(p, p.Result)
		unrolled, _ := lang.Unroll(p, 1)
		with, _ := lang.With(p, formats)
		box, _ := lang.Box(p, lo, hi)
		needed, states, _ := lang.Needs(p)
		lang.Same(p, p)
		form := dump(canon)
		for _, q := range []api.Prog{again, sub, unrolled, with, box} {
			spoil(valid(t, q))
		}
		clear(stands[:cap(stands)])
		clear(needed[:cap(needed)])
		clear(states[:cap(states)])
		if dump(p) != before || room[len(p.Nodes)] != (api.Node{}) || !slices.Equal(formats, args) || dump(canon) != form {
			t.Errorf("an argument has become %s\nit was %s", dump(p), before)
		}
		spoil(canon)
		if dump(p) != before || lo[0] != "-1" || hi[1] != "5" {
			t.Errorf("an argument has become %s\nit was %s", dump(p), before)
		}
	}
	n := sample(t).Nodes[19]
	kids := lang.Kids(n)
	kids[0] = 99
	if !slices.Equal(lang.Kids(n), []int{17, 18, 0, 15}) {
		t.Errorf("Kids again: %v", lang.Kids(n))
	}
}

// TestR3_Empty: empty lists are no lists.
func TestR3_Empty(t *testing.T) {
	p := api.Prog{Formats: twoFormats, Nodes: nodes(t, "const 1"), Head: 1, Tail: 1}
	q := clone(p)
	q.Inputs, q.States = []api.Input{}, []api.State{}
	for _, x := range []api.Prog{p, q} {
		valid(t, x)
		canon, nodes, e := lang.Canon(x)
		if e != api.OK || dump(canon) != dump(p) || !slices.Equal(nodes, []int{0}) {
			t.Errorf("Canon: %s, %v, error %d", dump(canon), nodes, e)
		}
		expectProg(t, "Sub", p, api.OK)(lang.Sub(x, 0))
		expectProg(t, "Unroll", p, api.OK)(lang.Unroll(x, 3))
		expectProg(t, "With", p, api.OK)(lang.With(x, []int{0}))
		expectProg(t, "Box", p, api.OK)(lang.Box(x, nil, []api.Rat{}))
	}
}
