package bounds_test

import (
	"fmt"
	"math/rand"
	"testing"

	"vernier/api"
	"vernier/floats"
	"vernier/lang"
)

// maker makes random programs that are valid. Each of them has some operations that
// it prefers.
type maker struct {
	*rand.Rand
	p       api.Prog
	prefers []int
}

var (
	someFormats = []api.Format{{E: 11, P: 53}, {E: 8, P: 24}, {E: 5, P: 11}, {E: 4, P: 5}, {E: 3, P: 3}}
	smoothOps   = []int{api.OpNeg, api.OpCast, api.OpAdd, api.OpSub, api.OpMul, api.OpMul, api.OpFma, api.OpDiv, api.OpSqrt}
	allOps      = []int{api.OpNeg, api.OpAbs, api.OpSqrt, api.OpCast, api.OpAdd, api.OpSub, api.OpSub, api.OpMul, api.OpDiv, api.OpMin, api.OpMax, api.OpFma, api.OpSel, api.OpSel}
	ringOps     = []int{api.OpAdd, api.OpSub, api.OpSub, api.OpMul, api.OpMul, api.OpFma, api.OpNeg, api.OpCast}
	latticeOps  = []int{api.OpMin, api.OpMax, api.OpAbs, api.OpSel, api.OpSel, api.OpSub, api.OpSub, api.OpCast}
)

// ends are values of all formats of someFormats.
var ends = []api.Rat{"-2", "-3/2", "-1/2", "0", "1/4", "1/2", "3/4", "1", "3/2", "2", "3"}

// randomProgram returns a valid program, many of whose nodes are needed. Those that are read
// from lines have loops in which states come to an end more often.
func randomProgram(t testing.TB, random *rand.Rand) api.Prog {
	t.Helper()
	if random.Intn(3) == 0 {
		return randomLoop(t, random)
	}
	m := &maker{Rand: random}
	m.prefers = [][]int{smoothOps, allOps, ringOps, latticeOps}[m.Intn(4)]
	m.p.Mode = m.Intn(5)
	for range 1 + m.Intn(3) {
		m.p.Formats = append(m.p.Formats, someFormats[min(m.Intn(len(someFormats)), m.Intn(len(someFormats)))])
	}
	for range min(m.Intn(4), 1+m.Intn(3)) {
		lo := max(m.Intn(len(ends)), m.Intn(len(ends)))
		hi := min(lo+m.Intn(len(ends)-lo), lo+2)
		m.p.Inputs = append(m.p.Inputs, api.Input{Format: m.format(), Lo: ends[lo], Hi: ends[hi]})
	}
	m.section(1 + m.Intn(7))
	m.p.Head = len(m.p.Nodes)
	loops := m.Intn(2) == 0
	if loops {
		for range 1 + m.Intn(2) {
			m.p.States = append(m.p.States, api.State{Init: m.Intn(m.p.Head)})
		}
		m.section(m.Intn(5))
	}
	m.p.Tail = len(m.p.Nodes)
	if loops {
		m.section(m.Intn(4))
		m.nexts()
	}
	m.p.Result = m.p.Head - 1
	if m.p.Tail < len(m.p.Nodes) {
		m.p.Result = len(m.p.Nodes) - 1
	}
	if part, at, e := lang.Check(m.p); e != api.OK {
		t.Fatalf("part %d, %d has the error %d: %+v", part, at, e, m.p)
	}
	return m.p
}

func (m *maker) format() int { return m.Intn(len(m.p.Formats)) }

// section appends nodes of one section.
func (m *maker) section(count int) {
	from := len(m.p.Nodes)
	for range count {
		var sees []int
		for i := range m.p.Nodes {
			if i < m.p.Head || from == 0 || i >= from {
				sees = append(sees, i)
			}
		}
		m.p.Nodes = append(m.p.Nodes, m.node(sees))
	}
}

// node returns a node with operands among those that it sees, the later ones first.
func (m *maker) node(sees []int) api.Node {
	n := api.Node{Format: m.format()}
	kind := m.Intn(20)
	switch {
	case kind < 6 && len(m.p.Inputs) > 0:
		n.Op, n.A = api.OpInput, m.Intn(len(m.p.Inputs))
		n.Format = m.p.Inputs[n.A].Format
	case kind < 10 && len(m.p.States) > 0:
		n.Op, n.A = api.OpState, m.Intn(len(m.p.States))
		n.Format = m.p.Nodes[m.p.States[n.A].Init].Format
	case kind < 9 || len(sees) == 0:
		values := []api.Rat{"0", "1", "2", "-1", "3", "1/3", "-7/10", "1/50", "10", "1/200000", "100/7", "5/4", "70000"}
		n.Op, n.Value = api.OpConst, values[min(m.Intn(len(values)), m.Intn(len(values)))]
	default:
		n.Op = m.prefers[m.Intn(len(m.prefers))]
		for i := range operandsOf(n) {
			*[...]*int{&n.A, &n.B, &n.C, &n.D}[i] = sees[max(m.Intn(len(sees)), m.Intn(len(sees)))]
		}
	}
	return n
}

// operandsOf returns how many operands a node has.
func operandsOf(n api.Node) int {
	counts := map[int]int{
		api.OpNeg: 1, api.OpAbs: 1, api.OpSqrt: 1, api.OpCast: 1,
		api.OpAdd: 2, api.OpSub: 2, api.OpMul: 2, api.OpDiv: 2, api.OpMin: 2, api.OpMax: 2,
		api.OpFma: 3, api.OpSel: 4,
	}
	return counts[n.Op]
}

// nexts chooses a Next of the right format for each state.
func (m *maker) nexts() {
	for s, x := range m.p.States {
		m.p.States[s].Next = x.Init
		for range 5 {
			next := m.Intn(m.p.Tail)
			if m.p.Nodes[next].Format == m.p.Nodes[x.Init].Format {
				m.p.States[s].Next = max(next, m.p.States[s].Next)
			}
		}
	}
}

// randomLoop returns a program with two states that become less, or slowly more, with each
// step.
func randomLoop(t testing.TB, random *rand.Rand) api.Prog {
	t.Helper()
	of := func(l ...string) string { return l[random.Intn(len(l))] }
	next := func(s, other string) string {
		return of(
			s+" * 0.5 + x / 4", s+" / 2 + "+other+" / 4", "fma("+s+", 0.3, "+other+" * 0.2)", s+" - "+s+" / 8", "x - "+s+" / 2",
			"min("+s+" * 1.5, 1)", "max("+s+" / 3, "+other+" / 2)", "if "+s+" <= 0.5 then "+s+" + 0.25 else "+s+" / 2",
			"("+s+" + 1 / ("+s+" + 1)) / 2", other, "x * x - x", s+" + x / 1000", "sqrt(abs("+s+")) / 2", "0.9 * "+s+" - 0.4 * "+other,
			"x * x", "(x - 0.5) * (x - 0.5)", "d("+s+") - 0.1", s,
		)
	}
	l := []string{
		"mode " + of("even", "even", "away", "zero", "up", "down"),
		"format d " + of("11 53", "8 24", "5 11", "5 4"),
		"format e " + of("8 24", "5 11", "4 5"),
		"input x : d from " + of("0 to 1", "0.5 to 1", "0 to 0.5", "-0.5 to 0.5", "1 to 1"),
		"state a : d = " + of("x", "0", "1", "x * x", "x * x - x", "x - 1"),
		"state b : d = " + of("x", "0.5", "-1", "x / 3"),
		"loop",
		"next a = " + next("a", "b"),
		"next b = " + next("b", "a"),
		"end",
		"let r : " + of("d", "e") + " = " + of("a", "a + b", "a - x", "a * a - a"),
		"result r",
	}
	text := ""
	for _, line := range l {
		text += line + "\n"
	}
	p, line, e := lang.Parse(text)
	if e == lang.ErrFormat { // a line that is no more than a name of the other format
		return randomLoop(t, random)
	}
	if e != api.OK {
		t.Fatalf("line %d has the error %d:\n%s", line, e, text)
	}
	return p
}

// randomPlan returns a valid plan.
func randomPlan(random *rand.Rand) api.BdPlan {
	bits := []int{8, 9, 12, 24, 30, 53, 64, 100, 400}
	return api.BdPlan{
		Bits:    bits[random.Intn(len(bits))],
		Splits:  max(0, random.Intn(8)-3),
		Widen:   random.Intn(12),
		Mean:    random.Intn(2) == 0,
		Squares: random.Intn(2) == 0,
	}
}

// randomInputs returns values in the box: those that numbers are rounded to, as the ends are
// values.
func randomInputs(t testing.TB, random *rand.Rand, p api.Prog) []api.Rat {
	t.Helper()
	var out []api.Rat
	for _, in := range p.Inputs {
		lo, hi := toRat(in.Lo), toRat(in.Hi)
		x := plus(lo, times(less(hi, lo), rat(random.Int63n(1<<random.Intn(12)+1), 1<<11)))
		y, e := floats.Near(p.Formats[in.Format], api.RnEven, number(t, toText(x)))
		if e != api.OK {
			t.Fatalf("Near: error %d", e)
		}
		out = append(out, y.Text())
	}
	return out
}

// randomBox returns a box for a program, around or within that of the program, or neither.
func randomBox(random *rand.Rand, p api.Prog) []api.Span {
	out := boxOf(p)
	for i := range out {
		lo, hi := toRat(out[i].Lo), toRat(out[i].Hi)
		lo, hi = plus(lo, rat(random.Int63n(9)-2, 24)), plus(hi, rat(random.Int63n(5)-2, 24))
		if random.Intn(8) == 0 {
			hi = lo
		}
		out[i] = api.Span{Lo: toText(least(lo, hi)), Hi: toText(greatest(lo, hi))}
	}
	return out
}

// randomClaims spoils claims of a leaf: what they claim need not be so.
func randomClaims(random *rand.Rand, l api.PfItem) api.PfItem {
	for _, list := range []*[]api.PfClaim{&l.Claims, &l.States} {
		*list = append([]api.PfClaim(nil), *list...)
		for i := range *list {
			c := &(*list)[i]
			switch random.Intn(12) {
			case 0:
				c.Lo, c.Hi, c.Err = "1/3", "2/3", "1/50"
			case 1:
				c.Lo, c.Hi, c.Err = "1", toText(rat(5+random.Int63n(4), 5)), toText(rat(random.Int63n(3), 100))
			case 2:
				c.Lo, c.Hi, c.Err = "40000", "65000", toText(rat(random.Int63n(3), 4))
			case 3:
				*c = api.PfClaim{}
			case 4:
				c.Lo = api.Rat(fmt.Sprint(random.Intn(5) - 2))
			case 5:
				c.Hi = api.Rat("1/" + digits(1+random.Intn(2000)))
			case 6:
				c.Err = api.Rat(fmt.Sprint(random.Intn(3)-1, "/7"))
			}
		}
	}
	return l
}
