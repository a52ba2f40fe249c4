package ranges_test

import (
	"fmt"
	"math/rand"
	"testing"

	"vernier/api"
	"vernier/exact"
	"vernier/lang"
	"vernier/ranges"
)

// maker makes random programs that are valid. Each of them has some operations that
// it prefers.
type maker struct {
	*rand.Rand
	p       api.Prog
	prefers []int
}

var (
	smoothOps = []int{api.OpNeg, api.OpCast, api.OpAdd, api.OpSub, api.OpMul, api.OpMul, api.OpFma, api.OpDiv, api.OpSqrt}
	allOps    = []int{api.OpNeg, api.OpAbs, api.OpSqrt, api.OpCast, api.OpAdd, api.OpSub, api.OpMul, api.OpDiv, api.OpMin, api.OpMax, api.OpFma, api.OpSel}
	ringOps   = []int{api.OpAdd, api.OpSub, api.OpMul, api.OpMul, api.OpFma}
	latticed  = []int{api.OpMin, api.OpMax, api.OpAbs, api.OpSel, api.OpSel, api.OpSub, api.OpMul}
)

// randomProgram returns a valid program with some inputs; a few have a loop.
func randomProgram(t testing.TB, random *rand.Rand) api.Prog {
	t.Helper()
	m := &maker{Rand: random}
	m.prefers = [][]int{smoothOps, allOps, ringOps, latticed}[m.Intn(4)]
	m.p.Formats = []api.Format{{E: 11, P: 53}}
	for range m.Intn(4) {
		m.p.Inputs = append(m.p.Inputs, api.Input{Lo: "0", Hi: "1"})
	}
	for i := range m.p.Inputs {
		m.p.Nodes = append(m.p.Nodes, api.Node{Op: api.OpInput, A: i})
	}
	m.section(2 + m.Intn(9))
	if m.Intn(2) == 0 {
		m.guard()
	}
	m.p.Head = len(m.p.Nodes)
	m.p.Tail = m.p.Head
	if m.Intn(5) == 0 {
		m.p.States = []api.State{{Init: m.Intn(m.p.Head)}}
		m.section(1 + m.Intn(6))
		m.p.Tail = len(m.p.Nodes)
		m.p.States[0].Next = m.Intn(m.p.Tail)
		m.section(m.Intn(6))
	}
	m.p.Result = m.Intn(m.p.Head)
	if part, at, e := lang.Check(m.p); e != api.OK {
		t.Fatalf("part %d, %d has the error %d: %+v", part, at, e, m.p)
	}
	return m.p
}

// section appends nodes of one section.
func (m *maker) section(count int) {
	from := len(m.p.Nodes)
	head := m.p.Head
	if head == 0 {
		head = from
	}
	for range count {
		var sees []int
		for i := range m.p.Nodes {
			if i < head || m.p.Head == 0 || i >= from {
				sees = append(sees, i)
			}
		}
		m.p.Nodes = append(m.p.Nodes, m.node(sees))
	}
}

// guard appends a quotient or a root that has always a value, as a square is not below
// 0; ranges do not tell this where the number that is squared may be 0.
func (m *maker) guard() {
	last := len(m.p.Nodes)
	value := []api.Rat{"1/50", "3/10", "1", "2"}[m.Intn(4)]
	m.p.Nodes = append(m.p.Nodes,
		api.Node{Op: api.OpMul, A: last - 1, B: last - 1},
		api.Node{Op: api.OpConst, Value: value},
		api.Node{Op: api.OpAdd, A: last, B: last + 1},
	)
	n := api.Node{Op: api.OpSqrt, A: last + 2}
	if m.Intn(2) == 0 {
		n = api.Node{Op: api.OpDiv, A: last - 1, B: last + 2}
	}
	m.p.Nodes = append(m.p.Nodes, n)
}

// node returns a node with operands among those that it sees, the later ones first.
func (m *maker) node(sees []int) api.Node {
	var n api.Node
	kind := m.Intn(20)
	switch {
	case kind < 2 && len(m.p.Inputs) > 0:
		n.Op, n.A = api.OpInput, m.Intn(len(m.p.Inputs))
	case kind < 4 && len(m.p.States) > 0:
		n.Op = api.OpState
	case kind < 5 || len(sees) == 0:
		values := []api.Rat{"0", "1", "2", "-1", "3", "1/3", "-7/10", "1/50", "10", "1/200000", "1000/7", "5", "7/2", "3/10"}
		n.Op, n.Value = api.OpConst, values[m.Intn(len(values))]
	default:
		n.Op = m.prefers[m.Intn(len(m.prefers))]
		for i := range operandsOf(n) {
			*[...]*int{&n.A, &n.B, &n.C, &n.D}[i] = sees[max(m.Intn(len(sees)), m.Intn(len(sees)))]
		}
	}
	return n
}

// randomNumber returns a number; few of them have short binary digits.
func randomNumber(random *rand.Rand) exact.Num {
	bottom := []int64{1, 1, 2, 3, 7, 10, 64, 1000003}[random.Intn(8)]
	x, _ := exact.Ratio(int64(random.Intn(int(4*bottom)+1))-bottom, bottom)
	return x
}

// randomBox returns a box; some spans have no width, and many have no number below 0.
func randomBox(random *rand.Rand, inputs int) []api.Span {
	var out []api.Span
	for range inputs {
		x, y := randomNumber(random), randomNumber(random)
		switch random.Intn(8) {
		case 0:
			y = x
		case 1, 2, 3:
			x, y = x.Abs(), y.Abs()
		case 4:
			width, _ := exact.Ratio(1, 1000)
			y = x.Add(width)
		}
		out = append(out, api.Span{Lo: x.Min(y).Text(), Hi: x.Max(y).Text()})
	}
	return out
}

// TestP6_Model compares all calls with the model for random programs.
func TestP6_Model(t *testing.T) {
	random := rand.New(rand.NewSource(6))
	seen := map[string]int{}
	for range 2500 {
		p := randomProgram(t, random)
		box := randomBox(random, len(p.Inputs))
		node := len(p.Nodes) - 1 - random.Intn(2)
		compareWithModel(t, p, box, node, random.Intn(9), seen)
		if t.Failed() {
			t.Fatalf("node %d of %+v over %v", node, p, box)
		}
	}
	for _, what := range []string{
		"Node 0", "Node 8", "Node 9", "Node 160", "Affine 0", "Affine 8", "Affine 9", "Affine 160",
		"Slope 0", "Slope 8", "Slope 9", "Slope 161", "Mean 0", "Mean 8", "Mean 161", "Monotone 0", "Monotone 161",
		"Best 0", "Best 8", "Best 9", "Bound 0", "Bound 8", "Bound 160", "Best without Node", "Bound without Best", "Bound below Best",
	} {
		if seen[what] < 10 {
			t.Errorf("only %d times: %s", seen[what], what)
		}
	}
}

// compareWithModel compares all calls for one node, and counts what there is.
func compareWithModel(t *testing.T, p api.Prog, box []api.Span, node, splits int, seen map[string]int) {
	t.Helper()
	m, over := newModel(p, node), toSpans(box)
	expectSpan := func(what string, want span, wantE api.Errno) func(ranges.Interval, api.Errno) {
		seen[fmt.Sprint(what, " ", int(wantE))]++
		text := ""
		if wantE == api.OK {
			text = want.text()
		}
		return expect(t, what, text, wantE)
	}
	wantNode, nodeE := m.rangeOf(over)
	expectSpan("Node", wantNode, nodeE)(ranges.Node(p, box, node))
	form, e := m.formOf(over)
	seen[fmt.Sprint("Affine ", int(e))]++
	text := ""
	if e == api.OK {
		text = form.text()
	}
	expectForm(t, "Affine", text, e)(ranges.Affine(p, box, node))
	values, _ := m.rangesOf(over)
	for i := range box {
		want, e := span{}, api.Errno(161)
		if m.smooth() {
			if e = nodeE; e == api.OK {
				want, e = m.slopeOf(values, i)
			}
		}
		expectSpan("Slope", want, e)(ranges.Slope(p, box, node, i))
	}
	want, e := m.meanOf(over)
	expectSpan("Mean", want, e)(ranges.Mean(p, box, node))
	want, e = m.monotoneOf(over)
	expectSpan("Monotone", want, e)(ranges.Monotone(p, box, node))
	best, bestE := m.bestOf(over)
	expectSpan("Best", best, bestE)(ranges.Best(p, box, node))
	if bestE == api.OK && nodeE != api.OK {
		seen["Best without Node"]++
	}
	want, pieces, e := m.boundOf(over, splits)
	a, n, gotE := ranges.Bound(p, box, node, splits)
	expectSpan("Bound", want, e)(a, gotE)
	if n != pieces {
		t.Errorf("Bound: %d pieces, want %d", n, pieces)
	}
	switch {
	case e == api.OK && bestE != api.OK:
		seen["Bound without Best"]++
	case e == api.OK && want.text() != best.text():
		seen["Bound below Best"]++
	}
}
