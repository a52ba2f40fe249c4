package tune_test

import (
	"fmt"
	"math/big"
	"math/rand"
	"slices"
	"testing"

	"vernier/api"
	"vernier/lang"
	"vernier/tune"
)

// maker makes random programs that are valid. Each of them has some operations that
// it prefers.
type maker struct {
	*rand.Rand
	p       api.Prog
	prefers []int
}

var (
	someFormats = []api.Format{{E: 11, P: 53}, {E: 8, P: 24}, {E: 5, P: 11}, {E: 4, P: 5}, {E: 3, P: 3}}
	smoothOps   = []int{api.OpNeg, api.OpCast, api.OpAdd, api.OpSub, api.OpMul, api.OpMul, api.OpFma, api.OpDiv, api.OpSqrt}
	allOps      = []int{api.OpNeg, api.OpAbs, api.OpSqrt, api.OpCast, api.OpAdd, api.OpSub, api.OpSub, api.OpMul, api.OpDiv, api.OpMin, api.OpMax, api.OpFma, api.OpSel, api.OpSel}
	ringOps     = []int{api.OpAdd, api.OpSub, api.OpSub, api.OpMul, api.OpMul, api.OpFma, api.OpNeg, api.OpCast}
	rootOps     = []int{api.OpSqrt, api.OpSqrt, api.OpAdd, api.OpAbs}
	// ends are values of all formats of someFormats.
	ends = rats("-2 -3/2 -1/2 0 1/4 1/2 3/4 1 3/2 2 3")
	// constants are values that are rounded, or not.
	constants = rats("0 1 2 -1 3 1/3 -7/10 1/50 10 1/200000 100/7 5/4")
)

// randomProgram returns a valid program, many of whose nodes are needed; a third of them are
// loops in which states come to an end more often.
func randomProgram(t testing.TB, random *rand.Rand) api.Prog {
	t.Helper()
	if random.Intn(3) == 0 {
		return randomLoop(t, random)
	}
	m := &maker{Rand: random}
	m.prefers = [][]int{smoothOps, allOps, ringOps, rootOps}[m.Intn(4)]
	m.p.Mode = m.Intn(5)
	for range 1 + m.Intn(3) {
		m.p.Formats = append(m.p.Formats, someFormats[m.Intn(len(someFormats))])
	}
	for range m.Intn(4) {
		lo := max(m.Intn(len(ends)), m.Intn(len(ends)))
		hi := min(lo+m.Intn(len(ends)-lo), lo+2)
		m.p.Inputs = append(m.p.Inputs, api.Input{Format: m.format(), Lo: ends[lo], Hi: ends[hi]})
	}
	m.section(2 + m.Intn(8))
	m.p.Head = len(m.p.Nodes)
	loops := m.Intn(3) == 0
	if loops {
		for range 1 + m.Intn(2) {
			m.p.States = append(m.p.States, api.State{Init: m.Intn(m.p.Head)})
		}
		m.section(m.Intn(5))
	}
	m.p.Tail = len(m.p.Nodes)
	if loops {
		m.section(m.Intn(4))
		m.nexts()
	}
	m.p.Result = m.p.Head - 1
	if m.p.Tail < len(m.p.Nodes) {
		m.p.Result = len(m.p.Nodes) - 1
	}
	if part, at, e := lang.Check(m.p); e != api.OK {
		t.Fatalf("part %d, %d has the error %d: %+v", part, at, e, m.p)
	}
	return m.p
}

func (m *maker) format() int { return m.Intn(len(m.p.Formats)) }

// section appends nodes of one section.
func (m *maker) section(count int) {
	from := len(m.p.Nodes)
	for range count {
		var sees []int
		for i := range m.p.Nodes {
			if i < m.p.Head || from == 0 || i >= from {
				sees = append(sees, i)
			}
		}
		m.p.Nodes = append(m.p.Nodes, m.node(sees))
	}
}

// node returns a node with operands among those that it sees, the later ones first.
func (m *maker) node(sees []int) api.Node {
	n := api.Node{Format: m.format()}
	kind := m.Intn(20)
	switch {
	case kind < 5 && len(m.p.Inputs) > 0:
		n.Op, n.A = api.OpInput, m.Intn(len(m.p.Inputs))
		n.Format = m.p.Inputs[n.A].Format
	case kind < 9 && len(m.p.States) > 0:
		n.Op, n.A = api.OpState, m.Intn(len(m.p.States))
		n.Format = m.p.Nodes[m.p.States[n.A].Init].Format
	case kind < 7 || len(sees) == 0:
		n.Op, n.Value = api.OpConst, constants[min(m.Intn(len(constants)), m.Intn(len(constants)))]
	default:
		n.Op = m.prefers[m.Intn(len(m.prefers))]
		for i := range len(lang.Kids(n)) {
			*[...]*int{&n.A, &n.B, &n.C, &n.D}[i] = sees[max(m.Intn(len(sees)), m.Intn(len(sees)))]
		}
	}
	return n
}

// nexts chooses a Next of the right format for each state.
func (m *maker) nexts() {
	for s, x := range m.p.States {
		m.p.States[s].Next = x.Init
		for range 5 {
			next := m.Intn(m.p.Tail)
			if m.p.Nodes[next].Format == m.p.Nodes[x.Init].Format {
				m.p.States[s].Next = max(next, m.p.States[s].Next)
			}
		}
	}
}

// randomLoop returns a program with two states that become less, or slowly more, with each
// step.
func randomLoop(t testing.TB, random *rand.Rand) api.Prog {
	t.Helper()
	of := func(l ...string) string { return l[random.Intn(len(l))] }
	next := func(s, other string) string {
		return of(
			s+" * 0.5 + x / 4", s+" / 2 + "+other+" / 4", "fma("+s+", 0.3, "+other+" * 0.2)", s+" - "+s+" / 8", "x - "+s+" / 2",
			"min("+s+" * 1.5, 1)", "max("+s+" / 3, "+other+" / 2)", "if "+s+" <= 0.5 then "+s+" + 0.25 else "+s+" / 2",
			"("+s+" + 1 / ("+s+" + 1)) / 2", "x * x - x", s+" + x / 1000", "sqrt(abs("+s+")) / 2", "0.9 * "+s+" - 0.4 * "+other,
		)
	}
	first, second := next("a", "b"), next("b", "a")
	d := of("11 53", "8 24", "5 11", "5 4")
	return program(t, "mode "+of("even", "even", "away", "zero", "up", "down")+"; format d "+d+"; format e "+of("8 24", "5 11", "4 5")+
		"; input x : d from "+of("0 to 1", "0.5 to 1", "0 to 0.5", "1 to 1")+
		"; state a : d = "+of("x", "x * x", "x * x - x", "x - 1")+"; state b : d = "+of("x", "x / 3", "x + 1")+
		"; loop; next a = "+first+"; next b = "+second+"; end; let r : e = "+of("a + b", "a - x", "a * a - a", "sqrt(abs(a))")+"; result r")
}

// randomSteep returns a program with faults, or without a measure, in a part of its box.
func randomSteep(t testing.TB, random *rand.Rand) api.Prog {
	t.Helper()
	of := func(l ...string) string { return l[random.Intn(len(l))] }
	text := "mode " + of("even", "even", "away", "zero", "up", "down") + "; format f " + of("3 3", "2 4", "4 5", "5 11", "11 53")
	text += "; input x : f from " + of("0 to 3", "-2 to 2", "0.5 to 3", "0 to 0.5") + "; input y : f from " + of("0 to 1", "-2 to 3", "1 to 2")
	return program(t, text+"; let r : f = "+of(
		"x * x * x * y", "1 / (x - 0.5)", "sqrt(x - y)", "x / (y * y)", "x * x * x * x * x", "1 / x + 1 / (y + 2.5)", "sqrt(x - y * y)",
		"sqrt(x + 2) + sqrt(x + 3) + sqrt(y + 2) + sqrt(y + 3)", "sqrt(sqrt(x + 2)) + sqrt(sqrt(y + 2))", "x * x + y * y",
	)+"; result r")
}

// randomTask returns a valid task, whose budget is that of a few.
func randomTask(random *rand.Rand, p api.Prog) api.TnTask {
	bits := []int{9, 12, 24, 30, 53, 64}
	x := api.TnTask{
		Groups: randomGroups(random, p),
		Budget: rats("0 1/1000000 1/1000 1/100 1/10 1")[random.Intn(6)],
		Plan: api.BdPlan{
			Bits: bits[random.Intn(len(bits))], Splits: max(0, random.Intn(5)-2), Widen: random.Intn(9),
			Mean: random.Intn(3) == 0, Squares: random.Intn(3) == 0,
		},
	}
	for i, f := range p.Formats {
		cost := f.P
		switch random.Intn(4) {
		case 0:
			cost = random.Intn(4)
		case 1:
			cost = i * i
		}
		x.Costs = append(x.Costs, cost)
	}
	return x
}

// randomGroups returns the groups of nodes, which are numbered without gaps. Most of them have
// no inputs; often a state, its Init and its Next are in one group.
func randomGroups(random *rand.Rand, p api.Prog) []int {
	count := random.Intn(api.MaxGroups + 1)
	if len(p.Formats) > 3 {
		count = min(count, 3)
	}
	out := make([]int, len(p.Nodes))
	states := random.Intn(count+1) - 1
	for i, n := range p.Nodes {
		out[i] = random.Intn(count+1) - 1
		if n.Op == api.OpInput && random.Intn(20) > 0 {
			out[i] = -1
		}
	}
	if random.Intn(4) > 0 {
		for i, n := range p.Nodes {
			if n.Op == api.OpState {
				out[i] = states
			}
		}
		for _, s := range p.States {
			out[s.Init], out[s.Next] = states, states
		}
	}
	numbers := map[int]int{-1: -1}
	for i, g := range out {
		if _, is := numbers[g]; !is {
			numbers[g] = len(numbers) - 1
		}
		out[i] = numbers[g]
	}
	return out
}

// randomInputs returns values in the box.
func randomInputs(t testing.TB, random *rand.Rand, p api.Prog) []api.Rat {
	t.Helper()
	var out []api.Rat
	for i := range p.Inputs {
		l := lineOf(t, p, i)
		n := new(big.Int).Rand(random, l.count)
		if random.Intn(4) == 0 {
			n.SetInt64(0)
		}
		out = append(out, l.value(n))
	}
	return out
}

// TestP10_TasksModel compares all calls with a task with the second making, for random
// programs.
func TestP10_TasksModel(t *testing.T) {
	random := rand.New(rand.NewSource(10))
	seen := map[string]int{}
	for range 1000 {
		p := randomProgram(t, random)
		x := randomTask(random, p)
		m := tableOf(t, p, x)
		if r := m.rows[random.Intn(len(m.rows))]; r.Err != "" {
			x.Budget = r.Err
			if random.Intn(4) == 0 {
				x.Budget = toText(new(big.Rat).Mul(toRat(r.Err), big.NewRat(999999, 1000000)))
			}
			m.setBudget(x.Budget)
		}
		compareTask(t, random, p, x, m, seen)
		if t.Failed() {
			t.Fatalf("%+v\n%+v", p, x)
		}
	}
	for _, what := range []string{
		"no group", "1 group", "2 groups", "3 groups", "4 groups", "program", "no program", "fault 143", "fault 180", "fits", "does not fit",
		"best", "none fits", "dearer ones before", "as cheap ones behind", "greedy", "greedy from what does not fit", "steps of greedy", "greedy is not best", "minimal", "not minimal",
	} {
		if seen[what] < 15 {
			t.Errorf("only %d times: %s", seen[what], what)
		}
	}
}

func compareTask(t *testing.T, random *rand.Rand, p api.Prog, x api.TnTask, m tableModel, seen map[string]int) {
	t.Helper()
	expectErrno(t, "Check", tune.Check(p, x), api.OK)
	countRows(m, seen)
	for _, r := range []api.TnRow{m.rows[0], m.rows[len(m.rows)-1], m.rows[random.Intn(len(m.rows))], dearest(m)} {
		compareAssignment(t, p, x, m, r, seen)
	}
	if len(m.rows) > api.MaxTries {
		t.Fatalf("%d rows", len(m.rows))
	}
	expectTable(t, "Table", rowsText(m.rows), api.OK)(tune.Table(p, x))
	best := m.cheapest(func(api.TnRow) bool { return true })
	if best < 0 {
		seen["none fits"]++
		expectBest(t, "Best", "", api.Proof{}, api.ErrNone)(tune.Best(p, x))
		return
	}
	seen["best"]++
	for i, r := range m.rows {
		if r.Fits && i < best {
			seen["dearer ones before"]++
		}
		if r.Fits && i > best && r.Cost == m.rows[best].Cost {
			seen["as cheap ones behind"]++
		}
	}
	expectBest(t, "Best", rowText(m.rows[best]), m.proofs[best], api.OK)(tune.Best(p, x))
}

// dearest returns the row with the greatest cost that fits, or another one.
func dearest(m tableModel) api.TnRow {
	best := m.rows[0]
	for _, r := range m.rows {
		if r.Fits && (!best.Fits || r.Cost > best.Cost) {
			best = r
		}
	}
	return best
}

// countRows counts what rows there are.
func countRows(m tableModel, seen map[string]int) {
	groups := len(m.rows[0].Formats)
	seen[[]string{"no group", "1 group", "2 groups", "3 groups", "4 groups"}[groups]]++
	for _, r := range m.rows {
		switch {
		case r.Fault != api.OK:
			seen[fmt.Sprint("fault ", r.Fault)]++
		case r.Fits:
			seen["fits"]++
		default:
			seen["does not fit"]++
		}
	}
}

// compareAssignment compares all calls with an assignment.
func compareAssignment(t *testing.T, p api.Prog, x api.TnTask, m tableModel, r api.TnRow, seen map[string]int) {
	t.Helper()
	expectInt(t, "Cost", r.Cost, api.OK)(tune.Cost(p, x, r.Formats))
	q := programModel(p, x, r.Formats)
	_, _, e := lang.Check(q)
	seen[map[bool]string{true: "program", false: "no program"}[e == api.OK]]++
	expectProgram(t, "Program", q, e)(tune.Program(p, x, r.Formats))
	expectRow(t, "Row", rowText(r), api.OK)(tune.Row(p, x, r.Formats))
	minimal := m.isMinimal(r.Formats)
	seen[map[bool]string{true: "minimal", false: "not minimal"}[minimal]]++
	expectBool(t, "Minimal", minimal, api.OK)(tune.Minimal(p, x, r.Formats))
	path := m.greedy(r.Formats)
	if len(path) == 0 {
		seen["greedy from what does not fit"]++
		expectRow(t, "Greedy", "", api.ErrNone)(tune.Greedy(p, x, r.Formats))
		return
	}
	seen["greedy"]++
	seen["steps of greedy"] += len(path) - 1
	last := path[len(path)-1]
	if !m.isMinimal(last.Formats) {
		seen["greedy is not best"]++
	}
	expectRow(t, "Greedy", rowText(last), api.OK)(tune.Greedy(p, x, r.Formats))
}

// TestP10_PointsModel compares all calls with points with the second making, for random
// programs.
func TestP10_PointsModel(t *testing.T) {
	random := rand.New(rand.NewSource(1010))
	seen := map[string]int{}
	for range 1500 {
		p := randomProgram(t, random)
		if random.Intn(3) == 0 {
			p = randomSteep(t, random)
		}
		comparePoints(t, random, p, seen)
		if t.Failed() {
			t.Fatalf("%+v", p)
		}
	}
	for _, what := range []string{
		"points", "no points", "fewer points", "number", "fault", "no measure", "grid", "grid is too long", "grid of nothing", "grid with faults",
		"grid with points of no measure", "too many values to climb", "climbs", "climbs on", "climbs to a fault", "climbs by all rounds", "stays",
	} {
		if seen[what] < 10 {
			t.Errorf("only %d times: %s", seen[what], what)
		}
	}
}

func comparePoints(t *testing.T, random *rand.Rand, p api.Prog, seen map[string]int) {
	t.Helper()
	steps, bits, rounds := random.Intn(5), random.Intn(80), random.Intn(8)
	for i := range p.Inputs {
		compareGridOf(t, p, i, 1+random.Intn(40)*random.Intn(10), seen)
	}
	in := randomInputs(t, random, p)
	m := measureOf(p, in, steps, bits)
	if m.isNone() {
		seen["no measure"]++
		expectFound(t, "Measure", "", api.ErrNone)(tune.Measure(p, in, steps, bits))
		expectFound(t, "Climb", "", api.ErrNone)(tune.Climb(p, in, steps, bits, rounds))
	} else {
		seen[map[bool]string{true: "number", false: "fault"}[m.num != nil]]++
		expectFound(t, "Measure", m.text(), api.OK)(tune.Measure(p, in, steps, bits))
		compareClimb(t, p, in, steps, bits, rounds, seen)
	}
	n := 1 + random.Intn(5)*random.Intn(5)
	l, e := gridModel(t, p, n, steps, bits)
	best := bestModel(l)
	switch {
	case e != api.OK:
		seen["grid is too long"]++
	case best.isNone():
		seen["grid of nothing"]++
		e = api.ErrNone
	default:
		countGrid(l, best, seen)
	}
	expectFound(t, "Grid", best.text(), e)(tune.Grid(p, n, steps, bits))
	if e == api.OK {
		path := climbModel(t, p, best.in, steps, bits, rounds)
		best = path[len(path)-1]
	}
	expectFound(t, "Worst", best.text(), e)(tune.Worst(p, n, steps, bits, rounds))
}

// compareGridOf compares the grid of an input.
func compareGridOf(t *testing.T, p api.Prog, i, n int, seen map[string]int) {
	t.Helper()
	l := lineOf(t, p, i)
	if l.isTooLong() {
		seen["no points"]++
		expectPoints(t, "Points", "", api.ErrLong)(tune.Points(p, i, n))
		return
	}
	want := l.grid(n)
	if len(want) < n {
		seen["fewer points"]++
	}
	seen["points"]++
	expectPoints(t, "Points", ratsText(want), api.OK)(tune.Points(p, i, n))
}

func countGrid(l []measureModel, best measureModel, seen map[string]int) {
	seen["grid"]++
	if best.fault.Kind != 0 {
		seen["grid with faults"]++
	}
	if slices.ContainsFunc(l, measureModel.isNone) {
		seen["grid with points of no measure"]++
	}
}

func compareClimb(t *testing.T, p api.Prog, in []api.Rat, steps, bits, rounds int, seen map[string]int) {
	t.Helper()
	for i := range p.Inputs {
		if lineOf(t, p, i).isTooLong() {
			seen["too many values to climb"]++
			expectFound(t, "Climb", "", api.ErrLong)(tune.Climb(p, in, steps, bits, rounds))
			return
		}
	}
	path := climbModel(t, p, in, steps, bits, rounds)
	last := path[len(path)-1]
	switch {
	case len(path) == 1:
		seen["stays"]++
	case last.fault.Kind != 0:
		seen["climbs to a fault"]++
	case len(path) == rounds+1:
		seen["climbs by all rounds"]++
	default:
		seen["climbs"]++
	}
	seen["climbs on"] += max(0, len(path)-2)
	expectFound(t, "Climb", last.text(), api.OK)(tune.Climb(p, in, steps, bits, rounds))
}
