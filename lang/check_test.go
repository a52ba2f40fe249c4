package lang_test

import (
	"fmt"
	"math"
	"slices"
	"strings"
	"testing"

	"vernier/api"
	"vernier/lang"
)

// sample is a valid program with all operations, and two states.
func sample(t testing.TB) api.Prog {
	head := "input 0; input@1 1; const -1/3; neg 0; abs@1 1; sqrt 2; cast@1 0; add 0 2"
	body := "state 0; sub 8 0; mul 9 8; state@1 1; div@1 11 4; min 10 0; input@1 1"
	rest := "state 0; state@1 1; max 15 0; fma@1 16 1 4; sel 17 18 0 15; const@1 7"
	return valid(t, draft(t, head, body, rest, "3 13; 4 12", 19))
}

// edit is a change of the sample that makes it invalid. Edits of the same place
// are not made together.
type edit struct {
	place    string
	part, at int
	e        api.Errno
	do       func(p *api.Prog)
}

// edits are in the order in which errors are looked for.
func edits() []edit {
	const long = api.MaxDigits + 1
	nines := api.Rat(strings.Repeat("9", long))
	type prog = *api.Prog
	return []edit{
		{"formats", 0, 0, api.ErrLong, func(p prog) { p.Formats = slices.Repeat(p.Formats, 4)[:7] }},
		{"inputs", 0, 0, api.ErrLong, func(p prog) { p.Inputs = slices.Repeat(p.Inputs, 4)[:7] }},
		{"nodes", 0, 0, api.ErrLong, func(p prog) { p.Nodes = append(p.Nodes, make([]api.Node, 65-len(p.Nodes))...) }},
		{"states", 0, 0, api.ErrLong, func(p prog) { p.States = slices.Repeat(p.States, 3)[:5] }},
		{"formats", 0, 0, api.ErrArg, func(p prog) { p.Formats = nil }},
		{"nodes", 0, 0, api.ErrArg, func(p prog) { p.Nodes, p.Head, p.Tail = nil, 0, 0 }},
		{"mode", 0, 0, api.ErrArg, func(p prog) { p.Mode = -1 }},
		{"mode", 0, 0, api.ErrArg, func(p prog) { p.Mode = 5 }},
		{"sections", 0, 0, api.ErrArg, func(p prog) { p.Head = -1 }},
		{"sections", 0, 0, api.ErrArg, func(p prog) { p.Head = p.Tail + 1 }},
		{"sections", 0, 0, api.ErrArg, func(p prog) { p.Tail = len(p.Nodes) + 1 }},
		{"sections", 0, 0, api.ErrArg, func(p prog) { p.Tail = math.MinInt }},
		{"format 0", 1, 0, api.ErrArg, func(p prog) { p.Formats[0] = api.Format{E: 1, P: 24} }},
		{"format 1", 1, 1, api.ErrArg, func(p prog) { p.Formats[1].P = 114 }},
		{"input 0", 2, 0, api.ErrRange, func(p prog) { p.Inputs[0].Format = 2 }},
		{"input 0", 2, 0, api.ErrRange, func(p prog) { p.Inputs[0].Format = -1 }},
		{"low 0", 2, 0, api.ErrForm, func(p prog) { p.Inputs[0].Lo = "" }},
		{"low 0", 2, 0, api.ErrLong, func(p prog) { p.Inputs[0].Lo = nines }},
		{"high 0", 2, 0, api.ErrForm, func(p prog) { p.Inputs[0].Hi = "2/4" }},
		{"low 0", 2, 0, api.ErrRange, func(p prog) { p.Inputs[0].Lo = "-1/3" }},
		{"high 0", 2, 0, api.ErrRange, func(p prog) { p.Inputs[0].Hi = "16777217" }},
		{"high 0", 2, 0, api.ErrRange, func(p prog) { p.Inputs[0].Hi = "-5/4" }},
		{"high 1", 2, 1, api.ErrLong, func(p prog) { p.Inputs[1].Hi = nines }},
		{"high 1", 2, 1, api.ErrRange, func(p prog) { p.Inputs[1].Hi = "65520" }},
		{"node 0", 3, 0, api.ErrArg, func(p prog) { p.Nodes[0].Op = 0 }},
		{"node 0", 3, 0, api.ErrArg, func(p prog) { p.Nodes[0].Op = 16 }},
		{"node 0", 3, 0, api.ErrArg, func(p prog) { p.Nodes[0].Op = math.MinInt }},
		{"node 0", 3, 0, api.ErrArg, func(p prog) { p.Nodes[0].Value = "1" }},
		{"format of 0", 3, 0, api.ErrRange, func(p prog) { p.Nodes[0].Format = 2 }},
		{"node 0", 3, 0, api.ErrRange, func(p prog) { p.Nodes[0].A = 2 }},
		{"node 0", 3, 0, api.ErrRange, func(p prog) { p.Nodes[0].A = -1 }},
		{"format of 0", 3, 0, lang.ErrFormat, func(p prog) { p.Nodes[0].Format = 1 }},
		{"node 2", 3, 2, api.ErrRange, func(p prog) { p.Nodes[2] = api.Node{Op: api.OpState} }},
		{"node 2", 3, 2, api.ErrForm, func(p prog) { p.Nodes[2].Value = "" }},
		{"node 2", 3, 2, api.ErrLong, func(p prog) { p.Nodes[2].Value = nines }},
		{"node 3", 3, 3, api.ErrArg, func(p prog) { p.Nodes[3].B = 1 }},
		{"node 3", 3, 3, api.ErrRange, func(p prog) { p.Nodes[3].A = 3 }},
		{"node 3", 3, 3, api.ErrRange, func(p prog) { p.Nodes[3].A = -1 }},
		{"format of 3", 3, 3, api.ErrRange, func(p prog) { p.Nodes[3].Format = -1 }},
		{"node 8", 3, 8, api.ErrRange, func(p prog) { p.Nodes[8].A = 2 }},
		{"node 8", 3, 8, api.ErrRange, func(p prog) { p.Nodes[8].A = -1 }},
		{"node 17", 3, 17, api.ErrRange, func(p prog) { p.Nodes[17].B = 9 }},
		{"node 20", 3, 20, api.ErrArg, func(p prog) { p.Nodes[20].A = 1 }},
		{"state 0", 4, 0, api.ErrRange, func(p prog) { p.States[0].Init = 8 }},
		{"state 0", 4, 0, api.ErrRange, func(p prog) { p.States[0].Init = -1 }},
		{"next 0", 4, 0, api.ErrRange, func(p prog) { p.States[0].Next = 15 }},
		{"next 0", 4, 0, api.ErrRange, func(p prog) { p.States[0].Next = -1 }},
		{"next 0", 4, 0, lang.ErrFormat, func(p prog) { p.States[0].Next = 12 }},
		{"format of 8", 4, 0, lang.ErrFormat, func(p prog) { p.Nodes[8].Format = 1 }},
		{"state 1", 4, 1, api.ErrRange, func(p prog) { p.States[1].Init = math.MaxInt }},
		{"format of 16", 4, 1, lang.ErrFormat, func(p prog) { p.Nodes[16].Format = 0 }},
		{"result", 5, 0, api.ErrRange, func(p prog) { p.Result = 9 }},
		{"result", 5, 0, api.ErrRange, func(p prog) { p.Result = 21 }},
		{"result", 5, 0, api.ErrRange, func(p prog) { p.Result = -1 }},
	}
}

// TestP4_1_Errors: each error alone, and the first one of two.
func TestP4_1_Errors(t *testing.T) {
	expectCheck(t, "the sample", 0, 0, api.OK)(lang.Check(sample(t)))
	all := edits()
	for i, x := range all {
		p := sample(t)
		x.do(&p)
		expectCheck(t, fmt.Sprint("edit ", i), x.part, x.at, x.e)(lang.Check(p))
		for j, y := range all[i+1:] {
			if y.place == x.place {
				continue
			}
			p := sample(t)
			y.do(&p)
			if x.part == 0 || len(p.Nodes) > 20 && len(p.Formats) > 1 && len(p.Inputs) > 1 && len(p.States) > 1 {
				x.do(&p)
				expectCheck(t, fmt.Sprint("edits ", i, " and ", i+1+j), x.part, x.at, x.e)(lang.Check(p))
			}
		}
	}
}

// TestP4_1_Shape: as many parts as the limits allow, and sections without states.
func TestP4_1_Shape(t *testing.T) {
	p := sample(t)
	p.Formats = slices.Repeat(p.Formats, 3)
	p.Inputs = slices.Repeat(p.Inputs, 3)
	p.States = slices.Repeat(p.States, 2)
	for len(p.Nodes) < 64 {
		p.Nodes = append(p.Nodes, p.Nodes[15])
	}
	expectCheck(t, "full lists", 0, 0, api.OK)(lang.Check(p))

	for count := range 3 {
		head := strings.Repeat("const 1;", count)
		p := draft(t, head, "", "", "", 0)
		wantE := api.OK
		if count == 0 {
			wantE = api.ErrArg
		}
		expectCheck(t, "a head alone", 0, 0, wantE)(lang.Check(p))
		p.Tail++
		expectCheck(t, "a tail behind it", 0, 0, api.ErrArg)(lang.Check(p))
		p.Head, p.Tail = p.Head-1, p.Head
		expectCheck(t, "a body without states", 0, 0, api.ErrArg)(lang.Check(p))
	}
	p = draft(t, "", "state 0", "", "0 0", 0)
	expectCheck(t, "no head", 4, 0, api.ErrRange)(lang.Check(p))
	expectCheck(t, "no body and no rest", 0, 0, api.OK)(lang.Check(draft(t, "const 1", "", "", "0 0", 0)))
	expectCheck(t, "no inputs", 0, 0, api.OK)(lang.Check(api.Prog{Formats: twoFormats, Nodes: nodes(t, "const 1"), Head: 1, Tail: 1}))
	expectCheck(t, "nothing", 0, 0, api.ErrArg)(lang.Check(api.Prog{}))
}

// TestP4_1_Fields: what a node does not use is zero.
func TestP4_1_Fields(t *testing.T) {
	p := sample(t)
	for i, n := range p.Nodes {
		used := operandCounts[n.Op]
		if n.Op == api.OpInput || n.Op == api.OpState {
			used = 1
		}
		for k := range 4 {
			q := clone(p)
			field := [...]*int{&q.Nodes[i].A, &q.Nodes[i].B, &q.Nodes[i].C, &q.Nodes[i].D}[k]
			*field = -7
			wantE := api.ErrRange
			if k >= used {
				wantE = api.ErrArg
			}
			expectCheck(t, fmt.Sprint("node ", i, ", operand ", k), 3, i, wantE)(lang.Check(q))
		}
		if n.Op != api.OpConst {
			q := clone(p)
			q.Nodes[i].Value = "0"
			expectCheck(t, fmt.Sprint("the value of node ", i), 3, i, api.ErrArg)(lang.Check(q))
		}
	}
}

// TestP4_1_Sees: which nodes may be operands, and which may be Init, Next and
// Result.
func TestP4_1_Sees(t *testing.T) {
	const nine = "const 1; const 2; sel 0 0 0 0;"
	sectionOf := func(i int) int { return i / 3 }
	p := valid(t, draft(t, nine, nine, nine, "0 0", 0))
	for i := 2; i < 9; i += 3 {
		for other := -2; other < 11; other++ {
			for k := range 4 {
				q := clone(p)
				n := &q.Nodes[i]
				*[...]*int{&n.A, &n.B, &n.C, &n.D}[k] = other
				part, at, wantE := 3, i, api.ErrRange
				if other >= 0 && other < i && (sectionOf(other) == 0 || sectionOf(other) == sectionOf(i)) {
					part, at, wantE = 0, 0, api.OK
				}
				expectCheck(t, fmt.Sprint("operand ", k, " of ", i, " is ", other), part, at, wantE)(lang.Check(q))
			}
		}
	}
	for i := -2; i < 11; i++ {
		places := []struct {
			part     int
			sections string
			do       func(p *api.Prog)
		}{
			{4, "0", func(p *api.Prog) { p.States[0].Init = i }},
			{4, "01", func(p *api.Prog) { p.States[0].Next = i }},
			{5, "02", func(p *api.Prog) { p.Result = i }},
		}
		for _, x := range places {
			q := clone(p)
			x.do(&q)
			part, wantE := x.part, api.ErrRange
			if i >= 0 && i < 9 && strings.Contains(x.sections, fmt.Sprint(sectionOf(i))) {
				part, wantE = 0, api.OK
			}
			expectCheck(t, fmt.Sprint("node ", i, " in the sections ", x.sections), part, 0, wantE)(lang.Check(q))
		}
	}
}
