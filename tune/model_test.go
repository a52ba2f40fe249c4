package tune_test

import (
	"math/big"
	"slices"
	"strings"
	"testing"

	"vernier/api"
	"vernier/bounds"
	"vernier/floats"
	"vernier/lang"
	"vernier/run"
)

// tableModel is a second making of rows: those of all assignments, with their proofs.
type tableModel struct {
	rows   []api.TnRow
	proofs []api.Proof
}

// tableOf makes the rows one after the other, by counting to the base of the number of formats.
func tableOf(t testing.TB, p api.Prog, x api.TnTask) tableModel {
	t.Helper()
	var out tableModel
	groups := 0
	for _, g := range x.Groups {
		groups = max(groups, g+1)
	}
	total := 1
	for range groups {
		total *= len(p.Formats)
	}
	for n := range total {
		formats := make([]int, groups)
		for g, rest := groups-1, n; g >= 0; g-- {
			formats[g], rest = rest%len(p.Formats), rest/len(p.Formats)
		}
		row, proof := rowModel(t, p, x, formats)
		out.rows, out.proofs = append(out.rows, row), append(out.proofs, proof)
	}
	return out
}

// programModel returns the program of an assignment, valid or not.
func programModel(p api.Prog, x api.TnTask, formats []int) api.Prog {
	p.Nodes = slices.Clone(p.Nodes)
	for i := range p.Nodes {
		if x.Groups[i] != -1 {
			p.Nodes[i].Format = formats[x.Groups[i]]
		}
	}
	return p
}

func rowModel(t testing.TB, p api.Prog, x api.TnTask, formats []int) (api.TnRow, api.Proof) {
	t.Helper()
	q := programModel(p, x, formats)
	row := api.TnRow{Formats: formats}
	for i := range doneModel(p) {
		switch p.Nodes[i].Op {
		case api.OpInput, api.OpState, api.OpConst:
		default:
			row.Cost += x.Costs[q.Nodes[i].Format]
		}
	}
	if _, _, row.Fault = lang.Check(q); row.Fault != api.OK {
		return row, api.Proof{}
	}
	proof, e := bounds.Derive(q, x.Plan)
	if row.Fault = e; e != api.OK {
		return row, api.Proof{}
	}
	row.Err = proof.Err
	row.Fits = toRat(row.Err).Cmp(toRat(x.Budget)) <= 0
	return row, proof
}

// doneModel returns the nodes that are needed, by going back from the result.
func doneModel(p api.Prog) map[int]bool {
	done := map[int]bool{}
	var visit func(i int)
	visit = func(i int) {
		if done[i] {
			return
		}
		done[i] = true
		if n := p.Nodes[i]; n.Op == api.OpState {
			visit(p.States[n.A].Init)
			visit(p.States[n.A].Next)
		}
		for _, k := range lang.Kids(p.Nodes[i]) {
			visit(k)
		}
	}
	visit(p.Result)
	return done
}

// setBudget tells again what fits: proofs do not depend on it.
func (m tableModel) setBudget(budget api.Rat) {
	for i, r := range m.rows {
		m.rows[i].Fits = r.Err != "" && toRat(r.Err).Cmp(toRat(budget)) <= 0
	}
}

// cheapest returns the first row with the least cost of those that a function accepts and
// that fit, or -1.
func (m tableModel) cheapest(accept func(api.TnRow) bool) int {
	best := -1
	for i, r := range m.rows {
		if r.Fits && accept(r) && (best < 0 || r.Cost < m.rows[best].Cost) {
			best = i
		}
	}
	return best
}

func (m tableModel) index(formats []int) int {
	return slices.IndexFunc(m.rows, func(r api.TnRow) bool { return slices.Equal(r.Formats, formats) })
}

// greedy returns the rows through which Greedy goes.
func (m tableModel) greedy(formats []int) []api.TnRow {
	at := m.index(formats)
	if !m.rows[at].Fits {
		return nil
	}
	out := []api.TnRow{m.rows[at]}
	for {
		from := out[len(out)-1]
		next := m.cheapest(func(r api.TnRow) bool {
			same := 0
			for g := range r.Formats {
				if r.Formats[g] == from.Formats[g] {
					same++
				}
			}
			return same == len(r.Formats)-1 && r.Cost < from.Cost
		})
		if next < 0 {
			return out
		}
		out = append(out, m.rows[next])
	}
}

func (m tableModel) isMinimal(formats []int) bool {
	at := m.rows[m.index(formats)]
	return at.Fits && m.cheapest(func(r api.TnRow) bool { return r.Cost < at.Cost }) < 0
}

// rank returns where a value of a format of at most 64 bits is among all values: its word, or
// the negative one of that without the sign.
func rank(t testing.TB, f api.Format, x api.Rat) *big.Int {
	t.Helper()
	w, _, e := floats.Round(f, api.RnEven, number(t, x))
	if e != api.OK || w.Hi != 0 {
		t.Fatalf("%s in %v: %v, error %d", x, f, w, e)
	}
	sign := uint64(1) << (f.E + f.P - 1)
	out := new(big.Int).SetUint64(w.Lo &^ sign)
	if w.Lo&sign != 0 {
		out.Neg(out)
	}
	return out
}

// ranked returns the value with a rank.
func ranked(t testing.TB, f api.Format, n *big.Int) api.Rat {
	t.Helper()
	w := api.Word{Lo: new(big.Int).Abs(n).Uint64()}
	if n.Sign() < 0 {
		w.Lo |= 1 << (f.E + f.P - 1)
	}
	x, e := floats.Value(f, w)
	if e != api.OK {
		t.Fatalf("%v in %v: error %d", n, f, e)
	}
	return x.Text()
}

// line is the values of an input: the rank of the first one, and how many there are.
type line struct {
	testing.TB
	format       api.Format
	first, count *big.Int
}

func lineOf(t testing.TB, p api.Prog, input int) line {
	t.Helper()
	in := p.Inputs[input]
	f := p.Formats[in.Format]
	first := rank(t, f, in.Lo)
	count := new(big.Int).Sub(rank(t, f, in.Hi), first)
	return line{t, f, first, count.Add(count, big.NewInt(1))}
}

func (l line) isTooLong() bool { return l.count.Cmp(new(big.Int).Lsh(big.NewInt(1), 62)) > 0 }

func (l line) value(n *big.Int) api.Rat {
	l.Helper()
	return ranked(l.TB, l.format, new(big.Int).Add(l.first, n))
}

func (l line) number(x api.Rat) *big.Int {
	l.Helper()
	return new(big.Int).Sub(rank(l.TB, l.format, x), l.first)
}

// grid returns the numbers of a grid, which are a set.
func (l line) grid(n int) []api.Rat {
	l.Helper()
	var out []api.Rat
	for k := range n {
		i := new(big.Int)
		if n > 1 {
			i.Mul(big.NewInt(int64(k)), new(big.Int).Sub(l.count, big.NewInt(1)))
			i.Quo(i, big.NewInt(int64(n-1)))
		}
		if x := l.value(i); !slices.Contains(out, x) {
			out = append(out, x)
		}
	}
	return out
}

// measureModel is a point with its measure: nothing, a number or a fault.
type measureModel struct {
	in    []api.Rat
	fault api.RnFault
	num   *big.Rat
}

func measureOf(p api.Prog, in []api.Rat, steps, bits int) measureModel {
	out := measureModel{in: in}
	lo, _, f, e := run.Error(p, in, steps, bits)
	if e == api.OK && f.Kind == 0 {
		rows := strings.Split(string(lo.Text()), "/")
		if !slices.ContainsFunc(rows, func(row string) bool { return len(row) > api.MaxDigits }) {
			out.num = toRat(lo.Text())
		}
	}
	out.fault = f
	return out
}

func (m measureModel) isNone() bool { return m.num == nil && m.fault.Kind == 0 }

// text writes a point as foundText does.
func (m measureModel) text() string {
	x := api.TnFound{In: m.in, Fault: m.fault}
	if m.num != nil {
		x.Error = toText(m.num)
	}
	return foundText(x)
}

// isLess tells which of two measures is greater.
func (m measureModel) isLess(other measureModel) bool {
	switch {
	case other.isNone(), m.fault.Kind != 0:
		return false
	case m.isNone(), other.fault.Kind != 0:
		return true
	}
	return m.num.Cmp(other.num) < 0
}

// bestModel returns the first one of the greatest measures; it has none if no point has one.
func bestModel(l []measureModel) measureModel {
	var best measureModel
	for _, m := range l {
		if best.isLess(m) {
			best = m
		}
	}
	return best
}

// gridModel returns the points of a grid with their measures, or an error.
func gridModel(t testing.TB, p api.Prog, n, steps, bits int) ([]measureModel, api.Errno) {
	t.Helper()
	points := [][]api.Rat{nil}
	for i := range p.Inputs {
		if lineOf(t, p, i).isTooLong() {
			return nil, api.ErrLong
		}
	}
	for i := range p.Inputs {
		var next [][]api.Rat
		values := lineOf(t, p, i).grid(n)
		for _, in := range points {
			for _, x := range values {
				next = append(next, append(slices.Clone(in), x))
			}
		}
		if points = next; len(points) > api.MaxPoints {
			return nil, api.ErrLong
		}
	}
	var out []measureModel
	for _, in := range points {
		out = append(out, measureOf(p, in, steps, bits))
	}
	return out, api.OK
}

// neighboursModel returns the neighbours of a point with their measures.
func neighboursModel(t testing.TB, p api.Prog, in []api.Rat, steps, bits int) []measureModel {
	t.Helper()
	var out []measureModel
	for input := range p.Inputs {
		l := lineOf(t, p, input)
		i := l.number(in[input])
		below, above := new(big.Int).Sub(i, big.NewInt(1)), new(big.Int).Add(i, big.NewInt(1))
		low, high := new(big.Int).Rsh(i, 1), new(big.Int).Add(i, l.count)
		for _, n := range []*big.Int{below, above, low, high.Rsh(high, 1)} {
			if n.Sign() < 0 || n.Cmp(l.count) >= 0 || n.Cmp(i) == 0 {
				continue
			}
			other := slices.Clone(in)
			other[input] = l.value(n)
			out = append(out, measureOf(p, other, steps, bits))
		}
	}
	return out
}

// climbModel returns the points through which Climb goes.
func climbModel(t testing.TB, p api.Prog, in []api.Rat, steps, bits, rounds int) []measureModel {
	t.Helper()
	out := []measureModel{measureOf(p, in, steps, bits)}
	for range rounds {
		at := out[len(out)-1]
		best := bestModel(neighboursModel(t, p, at.in, steps, bits))
		if at.fault.Kind != 0 || !at.isLess(best) {
			break
		}
		out = append(out, best)
	}
	return out
}
