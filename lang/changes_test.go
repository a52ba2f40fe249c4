package lang_test

import (
	"fmt"
	"math"
	"math/rand"
	"slices"
	"strings"
	"testing"

	"vernier/api"
	"vernier/lang"
)

// TestP4_5_Sub: another result, of the head or of the rest.
func TestP4_5_Sub(t *testing.T) {
	p := sample(t)
	for node := -2; node < len(p.Nodes)+2; node++ {
		want, wantE := api.Prog{}, api.ErrRange
		if node >= 0 && node < p.Head || node >= p.Tail && node < len(p.Nodes) {
			want, wantE = clone(p), api.OK
			want.Result = node
		}
		expectProg(t, fmt.Sprint("Sub of ", node), want, wantE)(lang.Sub(p, node))
	}
	expectProg(t, "Sub of MinInt", api.Prog{}, api.ErrRange)(lang.Sub(p, math.MinInt))
}

// TestP4_6_With: other formats of nodes.
func TestP4_6_With(t *testing.T) {
	p := sample(t)
	formats := func() []int {
		var out []int
		for _, n := range p.Nodes {
			out = append(out, n.Format)
		}
		return out
	}
	f := formats()
	f[2], f[5], f[19], f[20] = 1, 1, 1, 0
	want := clone(p)
	want.Nodes[2].Format, want.Nodes[5].Format, want.Nodes[19].Format, want.Nodes[20].Format = 1, 1, 1, 0
	expectProg(t, "other formats", want, api.OK)(lang.With(p, f))
	f = formats()
	want = clone(p)
	for _, i := range []int{3, 8, 13, 15} { // all nodes of state 0
		f[i], want.Nodes[i].Format = 1, 1
	}
	expectProg(t, "another format of a state", want, api.OK)(lang.With(p, f))
	for i := range f {
		f := formats()
		f[i] = 1 - f[i]
		_, e := lang.With(p, f)
		wantE := api.OK
		if op := p.Nodes[i].Op; op == api.OpInput || op == api.OpState || slices.Contains([]int{3, 13, 4, 12}, i) {
			wantE = lang.ErrFormat
		}
		if e != wantE {
			t.Errorf("another format of node %d: error %d", i, e)
		}
		for _, bad := range []int{-1, 2, math.MaxInt, math.MinInt} {
			f[i] = bad
			expectProg(t, "a format that is none", api.Prog{}, api.ErrRange)(lang.With(p, f))
		}
	}
	expectProg(t, "no formats", api.Prog{}, api.ErrArg)(lang.With(p, nil))
	expectProg(t, "too few formats", api.Prog{}, api.ErrArg)(lang.With(p, formats()[1:]))
	expectProg(t, "too many formats", api.Prog{}, api.ErrArg)(lang.With(p, append(formats(), 9)))
	f = formats()
	f[0], f[9] = 1, 2
	expectProg(t, "a format that is none, behind one that differs", api.Prog{}, api.ErrRange)(lang.With(p, f))
}

// TestP4_6_Box: other boxes.
func TestP4_6_Box(t *testing.T) {
	p := sample(t)
	nines := api.Rat(strings.Repeat("9", 2001))
	type rats = []api.Rat
	want := clone(p)
	want.Inputs[0].Lo, want.Inputs[0].Hi, want.Inputs[1].Lo, want.Inputs[1].Hi = "-7/2", "-7/2", "1/4", "65504"
	expectProg(t, "another box", want, api.OK)(lang.Box(p, rats{"-7/2", "1/4"}, rats{"-7/2", "65504"}))
	for i, c := range []struct {
		lo, hi rats
		e      api.Errno
	}{
		{nil, nil, api.ErrArg}, {rats{"0", "0"}, nil, api.ErrArg}, {nil, rats{"1", "1"}, api.ErrArg}, {rats{"0"}, rats{"1", "1"}, api.ErrArg}, {rats{"0", "0"}, rats{"1", "1", "1"}, api.ErrArg}, {rats{"x", "0", "0"}, rats{"1", "1", "1"}, api.ErrArg}, {rats{"0"}, rats{"1"}, api.ErrArg},
		{rats{"1", "0"}, rats{"0", "1"}, api.ErrRange}, {rats{"0", "1"}, rats{"0", "0"}, api.ErrRange}, {rats{"0", "0"}, rats{"0", "65520"}, api.ErrRange}, {rats{"1/3", "0"}, rats{"1", "1"}, api.ErrRange}, {rats{"0", "0"}, rats{"1", "1/3"}, api.ErrRange},
		{rats{"", "0"}, rats{"1", "1"}, api.ErrForm}, {rats{"0", "0"}, rats{"1", "2/4"}, api.ErrForm}, {rats{"0", nines}, rats{"1", "x"}, api.ErrLong}, {rats{"1/3", "x"}, rats{"1", "1"}, api.ErrRange},
	} {
		expectProg(t, fmt.Sprint("box ", i), api.Prog{}, c.e)(lang.Box(p, c.lo, c.hi))
	}
	none := api.Prog{Formats: twoFormats, Nodes: nodes(t, "const 1"), Head: 1, Tail: 1}
	expectProg(t, "no inputs", none, api.OK)(lang.Box(none, nil, rats{}))
	expectProg(t, "no inputs, but a box", api.Prog{}, api.ErrArg)(lang.Box(none, rats{"0"}, rats{"1"}))
}

// TestP4_7_Kids: operands, in their order.
func TestP4_7_Kids(t *testing.T) {
	for op := -3; op < 20; op++ {
		want := []int{9, -8, 9, math.MaxInt}[:operandCounts[op]]
		n := api.Node{Op: op, A: 9, B: -8, C: 9, D: math.MaxInt, Format: 5, Value: "x"}
		if kids := lang.Kids(n); !slices.Equal(kids, want) {
			t.Errorf("Kids of the operation %d: %v, want %v", op, kids, want)
		}
	}
	for _, op := range []int{math.MinInt, math.MaxInt} {
		if kids := lang.Kids(api.Node{Op: op}); len(kids) > 0 {
			t.Errorf("Kids of the operation %d: %v", op, kids)
		}
	}
}

// TestP4_7_Section: the section of each node.
func TestP4_7_Section(t *testing.T) {
	p := sample(t)
	for node := -2; node < len(p.Nodes)+2; node++ {
		want, wantE := 0, api.OK
		switch {
		case node < 0 || node >= len(p.Nodes):
			wantE = api.ErrRange
		case node >= 15:
			want = 2
		case node >= 8:
			want = 1
		}
		if section, e := lang.Section(p, node); section != want || e != wantE {
			t.Errorf("Section of %d: %d, error %d", node, section, e)
		}
	}
	alone := draft(t, "const 1; neg 0", "", "", "", 0)
	if section, e := lang.Section(alone, 1); section != 0 || e != api.OK {
		t.Errorf("Section without states: %d, error %d", section, e)
	}
	empty := draft(t, "const 1", "", "state 0", "0 0", 0)
	if section, e := lang.Section(empty, 1); section != 2 || e != api.OK {
		t.Errorf("Section behind an empty body: %d, error %d", section, e)
	}
}

// TestP4_10_Same: changes to what is there change nothing.
func TestP4_10_Same(t *testing.T) {
	random := rand.New(rand.NewSource(101))
	for range 2000 {
		p := randomProgram(t, random)
		var formats []int
		var lo, hi []api.Rat
		for _, n := range p.Nodes {
			formats = append(formats, n.Format)
		}
		for _, in := range p.Inputs {
			lo, hi = append(lo, in.Lo), append(hi, in.Hi)
		}
		expectProg(t, "Sub of the Result", p, api.OK)(lang.Sub(p, p.Result))
		expectProg(t, "With of the formats", p, api.OK)(lang.With(p, formats))
		expectProg(t, "Box of the box", p, api.OK)(lang.Box(p, lo, hi))
	}
}
