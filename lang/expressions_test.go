package lang_test

import (
	"math/rand"
	"slices"
	"strconv"
	"strings"
	"testing"

	"vernier/api"
	"vernier/lang"
)

// tree is a random expression: its nodes, and how it is written.
type tree struct {
	text   string
	kind   int // which of the grammar's kinds it is: that of 0 is a part of all others
	levels int
	node   int
}

const (
	atomKind = iota
	factorKind
	termKind
	sumKind
	wholeKind
)

// grower makes random expressions, with the nodes that they have to have.
type grower struct {
	*rand.Rand
	nodes []api.Node
}

func (g *grower) add(n api.Node) int {
	g.nodes = append(g.nodes, n)
	return len(g.nodes) - 1
}

// fitted returns a tree that may stand where a kind has to be.
func (g *grower) fitted(x tree, kind int) tree {
	for x.kind > kind || g.Intn(8) == 0 {
		x.text, x.kind, x.levels = "("+g.blanks()+x.text+g.blanks()+")", atomKind, x.levels+1
	}
	return x
}

func (g *grower) blanks() string { return strings.Repeat(" ", g.Intn(2)*g.Intn(3)) }

// join puts blanks between texts, where they may be; between words there has to be
// one, for which | stands.
func (g *grower) join(parts ...string) string {
	for i, p := range parts {
		parts[i] = strings.ReplaceAll(p, "|", " ")
	}
	out := ""
	for _, p := range parts {
		out += p + g.blanks()
	}
	return strings.TrimRight(out, " ")
}

// grow returns an expression in a format; formats are s and h.
func (g *grower) grow(room, format int) tree {
	if room <= 0 || g.Intn(6) == 0 {
		return g.leaf(format)
	}
	op := api.OpNeg + g.Intn(12)
	n := api.Node{Op: op, Format: format}
	inner := format
	if op == api.OpCast {
		n.Format = g.Intn(2)
		inner = n.Format
	}
	kinds := map[int][]int{
		api.OpNeg: {factorKind}, api.OpAdd: {sumKind, termKind}, api.OpSub: {sumKind, termKind},
		api.OpMul: {termKind, factorKind}, api.OpDiv: {termKind, factorKind}, api.OpSel: {sumKind, sumKind, wholeKind, wholeKind},
	}[op]
	var in []tree
	levels := 0
	for i := range operandCounts[op] {
		x := g.grow(room-1-g.Intn(2), inner)
		kind := wholeKind
		if kinds != nil {
			kind = kinds[i]
		}
		x = g.fitted(x, kind)
		levels = max(levels, x.levels)
		*[...]*int{&n.A, &n.B, &n.C, &n.D}[i] = x.node
		in = append(in, x)
	}
	out := tree{levels: levels + 1}
	out.text, out.kind = g.write(n, in)
	out.node = g.add(n)
	return out
}

func (g *grower) leaf(format int) tree {
	switch g.Intn(4) {
	case 0:
		n := strconv.Itoa(g.Intn(5))
		return tree{n + ".50", atomKind, 1, g.add(api.Node{Op: api.OpConst, Format: format, Value: halfMore(n)})}
	case 1:
		return tree{"{-2/3}", atomKind, 1, g.add(api.Node{Op: api.OpConst, Format: format, Value: "-2/3"})}
	case 2:
		return tree{"x", atomKind, 1, 0}
	}
	return tree{"y", atomKind, 1, 1}
}

// halfMore returns an integer and a half.
func halfMore(digits string) api.Rat {
	n, _ := strconv.Atoi(digits)
	return api.Rat(strconv.Itoa(2*n+1) + "/2")
}

func (g *grower) write(n api.Node, in []tree) (text string, kind int) {
	switch n.Op {
	case api.OpNeg:
		return g.join("-", in[0].text), factorKind
	case api.OpAdd:
		return g.join(in[0].text, "+", in[1].text), sumKind
	case api.OpSub:
		return g.join(in[0].text, "-", in[1].text), sumKind
	case api.OpMul:
		return g.join(in[0].text, "*", in[1].text), termKind
	case api.OpDiv:
		return g.join(in[0].text, "/", in[1].text), termKind
	case api.OpSel:
		return g.join("if|", in[0].text, "<=", in[1].text, "|then|", in[2].text, "|else|", in[3].text), wholeKind
	}
	word := map[int]string{api.OpAbs: "abs", api.OpSqrt: "sqrt", api.OpCast: []string{"s", "h"}[n.Format], api.OpMin: "min", api.OpMax: "max", api.OpFma: "fma"}[n.Op]
	parts := []string{word, "("}
	for i, x := range in {
		if i > 0 {
			parts = append(parts, ",")
		}
		parts = append(parts, x.text)
	}
	return g.join(append(parts, ")")...), atomKind
}

// TestP4_3_Expressions: the nodes of random expressions, in the order of
// evaluation.
func TestP4_3_Expressions(t *testing.T) {
	random := rand.New(rand.NewSource(433))
	long, high := 0, 0
	for range 20000 {
		g := &grower{Rand: random, nodes: nodes(t, "input 0; input@1 1")}
		x := g.grow(random.Intn(12), 1)
		text := lines("format s 8 24;format h 5 11;input x : s from 0 to 1;input y : h from 0 to 1;") + "let a : h = " + x.text + "\nresult a\n"
		p, line, e := lang.Parse(text)
		switch {
		case len(text) > api.MaxText:
			continue
		case x.levels > api.MaxNest:
			high++
			expectParse(t, text, 5, lang.ErrSyntax)
			continue
		case len(g.nodes) > api.MaxNodes:
			long++
			expectParse(t, text, 5, api.ErrLong)
			continue
		case g.nodes[x.node].Format != 1:
			expectParse(t, text, 5, lang.ErrFormat)
			continue
		}
		if e != api.OK || line != 0 || !slices.Equal(p.Nodes, g.nodes) || p.Result != x.node || p.Head != len(p.Nodes) || p.Tail != len(p.Nodes) {
			t.Fatalf("%s: line %d, error %d: %s\nwant %v", text, line, e, dump(p), g.nodes)
		}
	}
	if long < 100 {
		t.Errorf("only %d have too many nodes, and %d too many levels", long, high)
	}
}

// TestP4_3_ExpressionTable: what binds to what.
func TestP4_3_ExpressionTable(t *testing.T) {
	for text, want := range map[string]string{
		"x+y-1+2":                    "add 0 1; const 1; sub 2 3; const 2; add 4 5",
		"x-(y-1)":                    "const 1; sub 1 2; sub 0 3",
		"x*y/2*x":                    "mul 0 1; const 2; div 2 3; mul 4 0",
		"x+y*x-y/x":                  "mul 1 0; add 0 2; div 1 0; sub 3 4",
		"-x*y":                       "neg 0; mul 2 1",
		"x*-y":                       "neg 1; mul 0 2",
		"- -x--y":                    "neg 0; neg 2; neg 1; sub 3 4",
		"-(x*y)":                     "mul 0 1; neg 2",
		"-1":                         "const 1; neg 2",
		"{-1}":                       "const -1",
		"-{-1/2}":                    "const -1/2; neg 2",
		"((x))+x":                    "add 0 0",
		"sqrt(x)*abs(-y)":            "sqrt 0; neg 1; abs 3; mul 2 4",
		"min(1,x)/max(y,2)":          "const 1; min 2 0; const 2; max 1 4; div 3 5",
		"fma(x,2,y)":                 "const 2; fma 0 2 1",
		"fma(y+1,x,2)-x":             "const 1; add 1 2; const 2; fma 3 0 4; sub 5 0",
		"if x<=y then 1 else":        "",
		"if x+1<=y*2 then -x else y": "const 1; add 0 2; const 2; mul 1 4; neg 0; sel 3 5 6 1",
		"if x<=y then if y<=x then 1 else 2 else 3":         "const 1; const 2; sel 1 0 2 3; const 3; sel 0 1 4 5",
		"if x<=y then 1 else if y<=x then 2 else 3":         "const 1; const 2; const 3; sel 1 0 3 4; sel 0 1 2 5",
		"if x<=y then 1 else 2+x":                           "const 1; const 2; add 3 0; sel 0 1 2 4",
		"(if x<=y then 1 else 2)+x":                         "const 1; const 2; sel 0 1 2 3; add 4 0",
		"s(x)":                                              "cast 0",
		"s(s(x)+1)":                                         "cast 0; const 1; add 2 3; cast 4",
		"min(if x<=y then x else y, 1)":                     "sel 0 1 0 1; const 1; min 2 3",
		"if (x)<=(y) then (x) else (if 1<=2 then x else y)": "const 1; const 2; sel 2 3 0 1; sel 0 1 0 4",
		"x + x + x":                                         "add 0 0; add 2 0",
	} {
		all := lines("format s 8 24;input x : s from 0 to 1;input y : s from 0 to 1;") + "let a : s = " + text + "\nresult a\n"
		if want == "" {
			expectParse(t, all, 4, lang.ErrSyntax)
			continue
		}
		p, line, e := lang.Parse(all)
		if e != api.OK || !slices.Equal(p.Nodes, nodes(t, "input 0; input 1;"+want)) || p.Result != len(p.Nodes)-1 {
			t.Errorf("%s: line %d, error %d: %v", text, line, e, p.Nodes)
		}
	}
}
