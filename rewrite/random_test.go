package rewrite_test

import (
	"fmt"
	"math/rand"
	"testing"

	"vernier/api"
	"vernier/floats"
	"vernier/lang"
	"vernier/rewrite"
)

// maker makes random programs that are valid, with patterns of rules in them.
type maker struct {
	*rand.Rand
	*rewriter
	p api.Prog
}

var (
	someFormats = []api.Format{{E: 11, P: 53}, {E: 8, P: 24}, {E: 5, P: 11}, {E: 4, P: 5}}
	// ends are values of all formats of someFormats.
	ends   = []api.Rat{"-2", "-1", "-1/2", "0", "1/4", "1/2", "1", "3/2", "2", "3"}
	values = []api.Rat{"0", "1", "2", "0", "1", "-1", "3", "1/3", "4", "9/4", "-7/10", "1/200000", "100"}
)

// randomProgram returns a valid program, all of whose patterns may be needed. A few have
// states.
func (r *rewriter) randomProgram(t testing.TB, random *rand.Rand, patterns int) api.Prog {
	t.Helper()
	m := &maker{Rand: random, rewriter: r}
	m.p.Mode = m.Intn(5)
	for range 1 + m.Intn(2) {
		m.p.Formats = append(m.p.Formats, someFormats[m.Intn(len(someFormats))])
	}
	for range m.Intn(4) {
		lo := max(m.Intn(len(ends)), m.Intn(len(ends)))
		m.p.Inputs = append(m.p.Inputs, api.Input{Format: m.format(), Lo: ends[lo], Hi: ends[min(lo+m.Intn(3), len(ends)-1)]})
	}
	for i, in := range m.p.Inputs {
		m.p.Nodes = append(m.p.Nodes, api.Node{Op: api.OpInput, A: i, Format: in.Format})
	}
	for range 1 + m.Intn(2) {
		m.p.Nodes = append(m.p.Nodes, api.Node{Op: api.OpConst, Value: values[m.Intn(len(values))], Format: m.format()})
	}
	for range 1 + m.Intn(patterns) {
		m.plant()
	}
	m.p.Head = len(m.p.Nodes)
	if m.Intn(12) == 0 {
		m.p.States = append(m.p.States, api.State{Init: 0, Next: 0})
		m.p.Nodes = append(m.p.Nodes, api.Node{Op: api.OpState, Format: m.p.Nodes[0].Format})
	}
	m.p.Tail = m.p.Head
	m.p.Result = len(m.p.Nodes) - 1 - m.Intn(min(2, len(m.p.Nodes)))
	if part, at, e := lang.Check(m.p); e != api.OK {
		t.Fatalf("part %d, %d has the error %d: %+v", part, at, e, m.p)
	}
	return m.p
}

func (m *maker) format() int { return min(m.Intn(len(m.p.Formats)), m.Intn(len(m.p.Formats))) }

// node returns one of the nodes so far, the later ones more often.
func (m *maker) node() int { return max(m.Intn(len(m.p.Nodes)), m.Intn(len(m.p.Nodes))) }

// plant appends a node with any operation, or the nodes of a pattern, or of a result.
func (m *maker) plant() {
	if m.Intn(3) == 0 {
		n := api.Node{Op: api.OpNeg + m.Intn(12), Format: m.format()}
		for i := range operandsModel(n) {
			*[...]*int{&n.A, &n.B, &n.C, &n.D}[i] = m.node()
		}
		m.p.Nodes = append(m.p.Nodes, n)
		return
	}
	l := m.patterns
	if m.Intn(3) == 0 {
		l = m.results
	}
	letters := map[string]int{}
	for _, letter := range []string{"a", "b", "c", "d"} {
		letters[letter] = m.node()
	}
	from := len(m.p.Nodes)
	l[m.Intn(len(l))].build(&m.p.Nodes, letters, m.format())
	if m.Intn(3) == 0 {
		for i := from; i < len(m.p.Nodes); i++ {
			m.p.Nodes[i].Format = m.format()
		}
	}
}

// randomPlan returns a valid plan that takes little time.
func randomPlan(random *rand.Rand) api.BdPlan {
	return api.BdPlan{Bits: 20 + random.Intn(80), Splits: max(0, random.Intn(5)-2), Mean: random.Intn(3) == 0, Squares: random.Intn(3) == 0}
}

// randomInputs returns values in the box.
func randomInputs(t testing.TB, random *rand.Rand, p api.Prog) []api.Rat {
	t.Helper()
	var out []api.Rat
	for _, in := range p.Inputs {
		lo, hi := number(t, in.Lo), number(t, in.Hi)
		part, _ := number(t, api.Rat(fmt.Sprint(random.Intn(65)))).Shift(-6)
		x, e := floats.Near(p.Formats[in.Format], api.RnEven, lo.Add(hi.Sub(lo).Mul(part)))
		if e != api.OK {
			t.Fatalf("Near: error %d", e)
		}
		out = append(out, x.Text())
	}
	return out
}

// TestP9_Model compares all calls with the second making, for random programs.
func TestP9_Model(t *testing.T) {
	random := rand.New(rand.NewSource(9))
	r := newRewriter()
	seen := map[string]int{}
	for range 2500 {
		p := r.randomProgram(t, random, 4)
		compareApply(t, r, p, seen)
		if c := canon(t, p); len(c.States) == 0 {
			compareSearch(t, random, r, c, p, seen)
		}
		if t.Failed() {
			t.Fatalf("%s\n%+v", text(p), p)
		}
	}
	for _, name := range names {
		if seen[name] < 20 {
			t.Errorf("only %d times: %s", seen[name], name)
		}
	}
	for _, name := range []string{"conjugate", "abs-same", "min-left", "min-right", "max-left", "max-right", "sel-then", "sel-else", "fold"} {
		if seen[name+", but"] < 20 {
			t.Errorf("only %d times not: %s", seen[name+", but"], name)
		}
	}
	for _, what := range []string{"states", "steps", "complete", "in full", "bound", "first", "later", "later, first has none", "no bound", "no path"} {
		if seen[what] < 10 {
			t.Errorf("only %d times: %s", seen[what], what)
		}
	}
}

// compareApply compares Apply for all steps, Steps, and Replay.
func compareApply(t *testing.T, r *rewriter, p api.Prog, seen map[string]int) {
	t.Helper()
	c := canon(t, p)
	for rule := range 43 {
		for node := -1; node <= len(c.Nodes); node++ {
			s := api.RwStep{Rule: rule - 1, Node: node}
			want, wantE := r.apply(c, s.Rule, s.Node)
			if len(c.States) > 0 {
				want, wantE = api.Prog{}, rewrite.ErrState
			}
			expectProgram(t, stepsText([]api.RwStep{s}), want, wantE)(rewrite.Apply(p, s))
			switch {
			case wantE == api.OK:
				seen[rewrite.Name(s.Rule)]++
			case wantE == rewrite.ErrSide:
				seen[rewrite.Name(s.Rule)+", but"]++
			}
		}
	}
	if len(c.States) > 0 {
		seen["states"]++
		expectSteps(t, "Steps", "", rewrite.ErrState)(rewrite.Steps(p))
		return
	}
	want := r.steps(c)
	seen["steps"] += len(want)
	expectSteps(t, "Steps", stepsText(want), api.OK)(rewrite.Steps(p))
}

// compareSearch compares Reach, Path and Best for a program and its canonical form.
func compareSearch(t *testing.T, random *rand.Rand, r *rewriter, c, p api.Prog, seen map[string]int) {
	t.Helper()
	rounds, most := random.Intn(4), 1+random.Intn(40)
	programs, paths := r.reach(c, rounds, most)
	expectPrograms(t, "Reach", programs, api.OK)(rewrite.Reach(p, rounds, most))
	if len(programs) == most {
		seen["complete"]++
	} else {
		seen["in full"]++
	}
	at := random.Intn(len(programs))
	expectPath(t, "Path", stepsText(paths[at]), true, api.OK)(rewrite.Path(p, programs[at], rounds, most))
	expectReplay(t, "Replay", programs[at], 0, api.OK)(rewrite.Replay(p, paths[at]))
	if other := r.randomProgram(t, random, 2); indexModel(programs, canon(t, other)) < 0 && len(canon(t, other).States) == 0 {
		seen["no path"]++
		expectPath(t, "Path", "", false, api.OK)(rewrite.Path(p, other, rounds, most))
	}
	plan := randomPlan(random)
	best, bound, e := bestModel(t, programs, plan)
	if e != api.OK {
		seen["no bound"]++
		expectBest(t, "Best", c, "", "", e)(rewrite.Best(p, plan, rounds, most))
		return
	}
	seen["bound"]++
	if _, _, first := bestModel(t, programs[:1], plan); best > 0 && first != api.OK {
		seen["later, first has none"]++
	} else if best > 0 {
		seen["later"]++
	} else {
		seen["first"]++
	}
	expectBest(t, "Best", programs[best], stepsText(paths[best]), bound, api.OK)(rewrite.Best(p, plan, rounds, most))
}
