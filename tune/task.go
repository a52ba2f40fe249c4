package tune

import (
	"iter"
	"slices"

	"vernier/api"
	"vernier/bounds"
	"vernier/exact"
	"vernier/lang"
)

// task is a valid task for a program.
type task struct {
	api.TnTask
	prog   api.Prog
	groups int // how many there are
	budget exact.Num
	costly []bool // the nodes whose formats cost something
}

func readTask(p api.Prog, t api.TnTask) (*task, api.Errno) {
	needed, _, e := lang.Needs(p)
	if e != api.OK {
		return nil, e
	}
	if len(t.Groups) != len(p.Nodes) || len(t.Costs) != len(p.Formats) {
		return nil, api.ErrArg
	}
	if !areGroups(t.Groups) || slices.ContainsFunc(t.Costs, isNoCost) {
		return nil, api.ErrRange
	}
	budget, e := exact.Parse(t.Budget)
	if e != api.OK {
		return nil, e
	}
	if budget.Sign() < 0 {
		return nil, api.ErrRange
	}
	return &task{t, p, 1 + slices.Max(t.Groups), budget, costly(p, needed)}, api.OK
}

// areGroups reports whether there are not too many groups, and each of them has a node.
func areGroups(groupOf []int) bool {
	last := slices.Max(groupOf)
	if slices.Min(groupOf) < -1 || last >= api.MaxGroups {
		return false
	}
	for g := range last {
		if !slices.Contains(groupOf, g) {
			return false
		}
	}
	return true
}

func isNoCost(cost int) bool { return cost < 0 || cost > api.MaxCost }

// costly returns which nodes are operations that are done.
func costly(p api.Prog, needed []bool) []bool {
	out := make([]bool, len(p.Nodes))
	for i, n := range p.Nodes {
		out[i] = needed[i] && n.Op >= api.OpNeg
	}
	return out
}

func readAssignment(p api.Prog, t api.TnTask, formats []int) (*task, api.Errno) {
	x, e := readTask(p, t)
	if e != api.OK {
		return nil, e
	}
	if len(formats) != x.groups {
		return nil, api.ErrArg
	}
	for _, f := range formats {
		if f < 0 || f >= len(p.Formats) {
			return nil, api.ErrRange
		}
	}
	return x, api.OK
}

// assignments yields all of them, in order.
func (t *task) assignments() iter.Seq[[]int] {
	all := make([]int, len(t.prog.Formats))
	for f := range all {
		all[f] = f
	}
	return choices(slices.Repeat([][]int{all}, t.groups))
}

// besides yields the assignments that differ from one in one group alone, in order.
func (t *task) besides(formats []int) iter.Seq[[]int] {
	return func(yield func([]int) bool) {
		for other := range t.assignments() {
			if differences(formats, other) == 1 && !yield(other) {
				return
			}
		}
	}
}

func differences(a, b []int) int {
	count := 0
	for i := range a {
		if a[i] != b[i] {
			count++
		}
	}
	return count
}

// checkTries tells whether there are too many assignments for a table.
func (t *task) checkTries() api.Errno {
	tries := 1
	for range t.groups {
		tries *= len(t.prog.Formats)
	}
	if tries > api.MaxTries {
		return api.ErrLong
	}
	return api.OK
}

// nodeFormats returns the formats that nodes have by an assignment.
func (t *task) nodeFormats(formats []int) []int {
	out := make([]int, len(t.prog.Nodes))
	for i, n := range t.prog.Nodes {
		out[i] = n.Format
		if g := t.Groups[i]; g >= 0 {
			out[i] = formats[g]
		}
	}
	return out
}

func (t *task) cost(formats []int) int {
	sum := 0
	for i, f := range t.nodeFormats(formats) {
		if t.costly[i] {
			sum += t.Costs[f]
		}
	}
	return sum
}

func (t *task) programOf(formats []int) (api.Prog, api.Errno) {
	return lang.With(t.prog, t.nodeFormats(formats))
}

// rated is an assignment with its row, and the proof that this is about.
type rated struct {
	api.TnRow
	proof api.Proof
}

func (t *task) rate(formats []int) rated {
	row := api.TnRow{Formats: slices.Clone(formats), Cost: t.cost(formats)}
	proof, err, e := t.prove(formats)
	if e != api.OK {
		row.Fault = e
		return rated{TnRow: row}
	}
	row.Err, row.Fits = proof.Err, err.Cmp(t.budget) <= 0
	return rated{row, proof}
}

// prove derives a proof for the program of an assignment, and tells its error.
func (t *task) prove(formats []int) (q api.Proof, err exact.Num, e api.Errno) {
	p, e := t.programOf(formats)
	if e != api.OK {
		return api.Proof{}, exact.Num{}, e
	}
	if q, e = bounds.Derive(p, t.Plan); e != api.OK {
		return api.Proof{}, exact.Num{}, e
	}
	err, e = exact.Parse(q.Err)
	return q, err, e
}

// cheapest returns, of the assignments that cost less than a limit and fit, the first one with
// the least cost. As proofs take most of the time, none is derived where the cost is no less
// than one that is known to suffice.
func (t *task) cheapest(assignments iter.Seq[[]int], limit int) (best rated, found bool) {
	var fitting []rated
	collect := func(r rated) {
		if r.Fits {
			fitting, limit = append(fitting, r), r.Cost
		}
	}
	for formats := range assignments {
		if t.cost(formats) < limit {
			collect(t.rate(formats))
		}
	}
	if len(fitting) == 0 {
		return rated{}, false
	}
	return fitting[len(fitting)-1], true
}
