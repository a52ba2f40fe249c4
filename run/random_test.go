package run_test

import (
	"fmt"
	"math/rand"
	"slices"
	"testing"

	"vernier/api"
	"vernier/lang"
	"vernier/run"
)

// maker makes random programs that are valid. Each of them has some operations that
// it prefers.
type maker struct {
	*rand.Rand
	p       api.Prog
	prefers []int
}

var someFormats = []api.Format{{E: 11, P: 53}, {E: 8, P: 24}, {E: 5, P: 11}, {E: 2, P: 4}, {E: 3, P: 3}}

// bounds are values of all formats of someFormats.
var bounds = rats("-2 -3/2 -1/2 0 1/2 1 3")

// randomProgram returns a valid program, many of whose nodes are needed.
func randomProgram(t testing.TB, random *rand.Rand) api.Prog {
	t.Helper()
	m := &maker{Rand: random}
	m.prefers = [][]int{
		{api.OpAdd, api.OpSub, api.OpMul},
		{api.OpSqrt, api.OpSqrt, api.OpAdd, api.OpFma},
		{api.OpSel, api.OpSel, api.OpDiv, api.OpMul},
	}[m.Intn(3)]
	m.p.Mode = m.Intn(5)
	for range 1 + m.Intn(3) {
		m.p.Formats = append(m.p.Formats, someFormats[max(m.Intn(len(someFormats)), m.Intn(len(someFormats)))])
	}
	for range m.Intn(4) {
		lo := m.Intn(len(bounds))
		hi := lo + m.Intn(len(bounds)-lo)
		m.p.Inputs = append(m.p.Inputs, api.Input{Format: m.format(), Lo: bounds[lo], Hi: bounds[hi]})
	}
	m.section(2 + m.Intn(12))
	m.p.Head = len(m.p.Nodes)
	loops := m.Intn(3) > 0
	if loops {
		for range 1 + m.Intn(3) {
			m.p.States = append(m.p.States, api.State{Init: m.Intn(m.p.Head)})
		}
		m.section(m.Intn(14))
	}
	m.p.Tail = len(m.p.Nodes)
	if loops {
		m.section(m.Intn(8))
		m.nexts()
	}
	m.p.Result = m.p.Head - 1
	if m.p.Tail < len(m.p.Nodes) {
		m.p.Result = len(m.p.Nodes) - 1
	}
	if part, at, e := lang.Check(m.p); e != api.OK {
		t.Fatalf("part %d, %d has the error %d: %+v", part, at, e, m.p)
	}
	return m.p
}

func (m *maker) format() int { return m.Intn(len(m.p.Formats)) }

// section appends nodes of one section.
func (m *maker) section(count int) {
	from := len(m.p.Nodes)
	for range count {
		var sees []int
		for i := range m.p.Nodes {
			if i < m.p.Head || from == 0 || i >= from {
				sees = append(sees, i)
			}
		}
		m.p.Nodes = append(m.p.Nodes, m.node(sees))
	}
}

// node returns a node with operands among those that it sees, the later ones first.
func (m *maker) node(sees []int) api.Node {
	n := api.Node{Format: m.format()}
	kind := m.Intn(20)
	switch {
	case kind < 4 && len(m.p.Inputs) > 0:
		n.Op, n.A = api.OpInput, m.Intn(len(m.p.Inputs))
		n.Format = m.p.Inputs[n.A].Format
	case kind < 8 && len(m.p.States) > 0:
		n.Op, n.A = api.OpState, m.Intn(len(m.p.States))
		n.Format = m.p.Nodes[m.p.States[n.A].Init].Format
	case kind < 6 || len(sees) == 0:
		values := rats("0 1 2 -1 3 1/3 -7/10 1/50 10 1/200000 1000/7 5 7/2")
		n.Op, n.Value = api.OpConst, values[m.Intn(len(values))]
	default:
		n.Op = api.OpNeg + m.Intn(12)
		if m.Intn(2) == 0 {
			n.Op = m.prefers[m.Intn(len(m.prefers))]
		}
		for i := range operandsModel(n) {
			*[...]*int{&n.A, &n.B, &n.C, &n.D}[i] = sees[max(m.Intn(len(sees)), m.Intn(len(sees)), m.Intn(len(sees)))]
		}
	}
	return n
}

// nexts chooses a Next of the right format for each state.
func (m *maker) nexts() {
	for s, x := range m.p.States {
		m.p.States[s].Next = x.Init
		for range 5 {
			next := m.Intn(m.p.Tail)
			if m.p.Nodes[next].Format == m.p.Nodes[x.Init].Format {
				m.p.States[s].Next = max(next, m.p.States[s].Next)
			}
		}
	}
}

// randomInputs returns numbers in the box.
func randomInputs(random *rand.Rand, p api.Prog) []api.Rat {
	var out []api.Rat
	for _, in := range p.Inputs {
		lo, hi := slices.Index(bounds, in.Lo), slices.Index(bounds, in.Hi)
		out = append(out, bounds[lo+random.Intn(hi-lo+1)])
	}
	return out
}

// TestP5_Model compares all calls with the model for random programs.
func TestP5_Model(t *testing.T) {
	random := rand.New(rand.NewSource(5))
	seen := map[string]int{}
	for range 12000 {
		p := randomProgram(t, random)
		in, steps := randomInputs(random, p), random.Intn(7)
		compareWithModel(t, p, in, steps, seen)
		if t.Failed() {
			t.Fatalf("%+v with %v, %d steps", p, in, steps)
		}
	}
	for _, what := range []string{
		"float value", "float fault 1", "float fault 2", "float fault 3", "real value", "real fault 2", "real fault 3",
		"too large", "not plain", "event 1", "event 2", "event 3", "event 4", "both fault", "float branch", "real branch",
	} {
		if seen[what] < 50 {
			t.Errorf("only %d times: %s", seen[what], what)
		}
	}
}

// compareWithModel compares all calls for one input, and counts what there is.
func compareWithModel(t *testing.T, p api.Prog, in []api.Rat, steps int, seen map[string]int) {
	t.Helper()
	m := runModel(p, in, steps)
	if input, e := run.Check(p, in, steps); input != 0 || e != api.OK {
		t.Errorf("Check: %d, error %d", input, e)
	}
	if count, e := run.Count(p, steps); count != len(m.times) || e != api.OK {
		t.Errorf("Count: %d, error %d, want %d", count, e, len(m.times))
	}
	compareFloat(t, m, in, seen)
	if m.tooLarge {
		seen["too large"]++
		expectReal(t, "Real", "", 0, noFault, api.ErrLong)(run.Real(p, in, steps))
		return
	}
	l, at, f, e := run.Real(p, in, steps)
	switch {
	case e != api.OK || f != m.realEnd:
		t.Errorf("Real: fault %v, error %d, want %v", f, e, m.realEnd)
	case f.Kind != 0:
		seen[fmt.Sprint("real fault ", f.Kind)]++
		if len(l) > 0 || at != 0 {
			t.Errorf("Real: %v, node %d with a fault", l, at)
		}
		if m.floatEnd.Kind != 0 {
			seen["both fault"]++
		}
	case !slices.Equal(l, m.list.nodes) || at != m.at:
		t.Errorf("Real: %v, node %d, want %v, node %d", l, at, m.list.nodes, m.at)
	default:
		seen["real value"]++
		if l[at].Kind != api.RlNum {
			seen["not plain"]++
		}
	}
	compareBranches(t, m, in, seen)
	compareEvents(t, m, in, seen)
	compareErrors(t, m, in)
}

func compareFloat(t *testing.T, m *runsModel, in []api.Rat, seen map[string]int) {
	t.Helper()
	var want []string
	last := api.Rat("0")
	for _, x := range m.times {
		if x.float != nil {
			last = toText(x.float)
			want = append(want, value(api.RnValue{Node: x.node, Step: x.step, Value: last}))
		}
	}
	l, f, e := run.Values(m.p, in, m.steps)
	if !slices.EqualFunc(l, want, func(v api.RnValue, text string) bool { return value(v) == text }) || f != m.floatEnd || e != api.OK {
		t.Errorf("Values: %s, fault %v, error %d, want %v, fault %v", valuesText(l), f, e, want, m.floatEnd)
	}
	if m.floatEnd.Kind != 0 {
		last = "0"
		seen[fmt.Sprint("float fault ", m.floatEnd.Kind)]++
	} else {
		seen["float value"]++
	}
	expectNum(t, "Float", last, m.floatEnd, api.OK)(run.Float(m.p, in, m.steps))
}

func compareBranches(t *testing.T, m *runsModel, in []api.Rat, seen map[string]int) {
	t.Helper()
	var wantFloat, wantReal []bool
	for _, x := range m.times {
		if m.p.Nodes[x.node].Op == api.OpSel && x.float != nil {
			wantFloat = append(wantFloat, x.floatTook)
			seen["float branch"]++
		}
		if m.p.Nodes[x.node].Op == api.OpSel && x.real != nil {
			wantReal = append(wantReal, x.realTook)
			seen["real branch"]++
		}
	}
	float, real, e := run.Branches(m.p, in, m.steps)
	if !slices.Equal(float, wantFloat) || !slices.Equal(real, wantReal) || e != api.OK {
		t.Errorf("Branches: %v, %v, error %d, want %v, %v", float, real, e, wantFloat, wantReal)
	}
}

func compareEvents(t *testing.T, m *runsModel, in []api.Rat, seen map[string]int) {
	t.Helper()
	want := m.events()
	for _, x := range want {
		seen[fmt.Sprint("event ", x.Kind)]++
	}
	if l, e := run.Events(m.p, in, m.steps); !slices.Equal(l, want) || e != api.OK {
		t.Errorf("Events: %v, error %d, want %v", l, e, want)
	}
}
