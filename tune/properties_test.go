package tune_test

import (
	"math"
	"math/big"
	"math/rand"
	"strings"
	"testing"

	"vernier/api"
	"vernier/bounds"
	"vernier/run"
	"vernier/tune"
)

// TestP10_7_Budgets: what Best and Greedy return keeps to the budget, by an accepted proof and
// in runs.
func TestP10_7_Budgets(t *testing.T) {
	random := rand.New(rand.NewSource(107))
	best, greedy, runs := 0, 0, 0
	for range 400 {
		p := randomProgram(t, random)
		x := randomTask(random, p)
		r, proof, e := tune.Best(p, x)
		if e != api.OK {
			continue
		}
		best++
		runs += expectWithin(t, random, p, x, r, proof)
		l, e := tune.Table(p, x)
		if e != api.OK {
			t.Fatalf("Table: error %d", e)
		}
		r, e = tune.Greedy(p, x, l[random.Intn(len(l))].Formats)
		if e == api.OK {
			greedy++
			q, _ := tune.Program(p, x, r.Formats)
			proof, e = bounds.Derive(q, x.Plan)
			expectErrno(t, "Derive", e, api.OK)
			runs += expectWithin(t, random, p, x, r, proof)
		}
		if t.Failed() {
			t.Fatalf("%+v\n%+v", p, x)
		}
	}
	if best < 80 || greedy < 50 || runs < 300 {
		t.Errorf("%d times Best, %d times Greedy, %d runs", best, greedy, runs)
	}
}

// expectWithin expects that a proof is accepted for the program of a row, and that this keeps
// to the budget; it returns how many runs say so.
func expectWithin(t *testing.T, random *rand.Rand, p api.Prog, x api.TnTask, r api.TnRow, proof api.Proof) int {
	t.Helper()
	q, e := tune.Program(p, x, r.Formats)
	expectErrno(t, "Program", e, api.OK)
	expectAccepted(t, rowText(r), q, proof)
	budget := number(t, x.Budget)
	if !r.Fits || r.Fault != api.OK || r.Err != proof.Err || number(t, proof.Err).Cmp(budget) > 0 {
		t.Errorf("%s with the error %s, and the budget %s", rowText(r), proof.Err, x.Budget)
	}
	runs := 0
	for range 3 {
		in := randomInputs(t, random, q)
		is, f, e := run.Within(q, in, random.Intn(6), budget)
		if e == api.ErrLong {
			continue
		}
		runs++
		if !is || f.Kind != 0 || e != api.OK {
			t.Errorf("%s with %v: %v, fault %v, error %d", rowText(r), in, is, f, e)
		}
	}
	return runs
}

// TestP10_8_Cheapest: Best is minimal, and costs no more than Greedy from anywhere; a greater
// budget does not make it cost more, and the greatest error as the budget fits all.
func TestP10_8_Cheapest(t *testing.T) {
	random := rand.New(rand.NewSource(108))
	count, less := 0, 0
	for range 250 {
		p := randomProgram(t, random)
		x := randomTask(random, p)
		l, e := tune.Table(p, x)
		expectErrno(t, "Table", e, api.OK)
		if r := l[random.Intn(len(l))]; r.Err != "" {
			x.Budget = r.Err
		}
		best, _, e := tune.Best(p, x)
		if e != api.OK {
			continue
		}
		count++
		expectBool(t, "Minimal", true, api.OK)(tune.Minimal(p, x, best.Formats))
		greatest := new(big.Rat)
		for _, r := range l {
			if r.Err != "" && toRat(r.Err).Cmp(greatest) > 0 {
				greatest = toRat(r.Err)
			}
			if g, e := tune.Greedy(p, x, r.Formats); e == api.OK && g.Cost < best.Cost {
				t.Errorf("Greedy from %v: %s, but Best: %s", r.Formats, rowText(g), rowText(best))
			}
		}
		more := x
		more.Budget = toText(new(big.Rat).Mul(toRat(x.Budget), big.NewRat(int64(1+random.Intn(9000)), 1)))
		other, _, e := tune.Best(p, more)
		if e != api.OK || other.Cost > best.Cost {
			t.Errorf("with a greater budget: %s, error %d, and before %s", rowText(other), e, rowText(best))
		}
		if other.Cost < best.Cost {
			less++
		}
		more.Budget = toText(greatest)
		l, _ = tune.Table(p, more)
		for _, r := range l {
			if r.Fits != (r.Fault == api.OK) {
				t.Errorf("with the greatest error as the budget: %s", rowText(r))
			}
		}
		if t.Failed() {
			t.Fatalf("%+v\n%+v", p, x)
		}
	}
	if count < 60 || less < 5 {
		t.Errorf("%d times Best, %d times less", count, less)
	}
}

// TestP10_9_Worst: points that are found are in the box, and have the fault or the error that
// runs say; where there is a proof, there is no fault, and the share is at most 100.
func TestP10_9_Worst(t *testing.T) {
	random := rand.New(rand.NewSource(109))
	proved, faults := 0, 0
	for range 700 {
		p := randomProgram(t, random)
		if random.Intn(4) == 0 {
			p = randomSteep(t, random)
		}
		steps, bits := random.Intn(5), random.Intn(100)
		proof, e := bounds.Derive(p, api.BdPlan{Bits: 40, Splits: random.Intn(3), Widen: 8, Mean: random.Intn(2) == 0})
		isProved := e == api.OK
		in := randomInputs(t, random, p)
		for i, find := range []func() (api.TnFound, api.Errno){
			func() (api.TnFound, api.Errno) { return tune.Measure(p, in, steps, bits) },
			func() (api.TnFound, api.Errno) { return tune.Grid(p, 1+random.Intn(7), steps, bits) },
			func() (api.TnFound, api.Errno) { return tune.Climb(p, in, steps, bits, random.Intn(8)) },
			func() (api.TnFound, api.Errno) {
				return tune.Worst(p, 1+random.Intn(7), steps, bits, random.Intn(8))
			},
		} {
			x, e := find()
			if e != api.OK {
				continue
			}
			if i == 0 && ratsText(x.In) != ratsText(in) {
				t.Errorf("Measure of %v: %s", in, foundText(x))
			}
			expectRuns(t, p, x, steps, bits)
			if x.Fault.Kind != 0 {
				faults++
			}
			if isProved {
				proved++
				expectBelow(t, x, proof.Err)
			}
		}
		if t.Failed() {
			t.Fatalf("%+v, %d steps, %d bits", p, steps, bits)
		}
	}
	if proved < 500 || faults < 100 {
		t.Errorf("%d proved, %d faults", proved, faults)
	}
}

// expectRuns expects that a point has the measure that both runs say.
func expectRuns(t *testing.T, p api.Prog, x api.TnFound, steps, bits int) {
	t.Helper()
	if input, e := run.Check(p, x.In, steps); e != api.OK {
		t.Errorf("%s: the input %d has the error %d", foundText(x), input, e)
	}
	y, fault, e := run.Float(p, x.In, steps)
	expectErrno(t, "Float", e, api.OK)
	if fault.Kind == 0 {
		_, _, fault, e = run.Real(p, x.In, steps)
		expectErrno(t, "Real", e, api.OK)
	}
	if x.Fault != fault || (x.Error == "") != (fault.Kind != 0) {
		t.Errorf("%s: the runs have the fault %v, and the value %.100s", foundText(x), fault, y.Text())
	}
	if fault.Kind != 0 {
		return
	}
	unit, _ := number(t, "1").Shift(-bits)
	low := number(t, x.Error)
	atMost, _, e := run.Within(p, x.In, steps, low.Add(unit))
	expectErrno(t, "Within", e, api.OK)
	scaled, _ := low.Shift(bits)
	if below, _, _ := run.Within(p, x.In, steps, low.Sub(unit)); !atMost || below || !scaled.IsInt() {
		t.Errorf("%s: no error that is rounded down to %d bits", foundText(x), bits)
	}
}

// expectBelow expects that a point has no fault, and no error above one that is proved.
func expectBelow(t *testing.T, x api.TnFound, err api.Rat) {
	t.Helper()
	if x.Fault.Kind != 0 || toRat(x.Error).Cmp(toRat(err)) > 0 {
		t.Errorf("%s: above %s", foundText(x), err)
		return
	}
	share, e := tune.Share(x.Error, err)
	if err == "0" {
		expectErrno(t, "Share", e, api.ErrZero)
	} else if share < 0 || share > 100 || e != api.OK {
		t.Errorf("%s: the share %d of %s, error %d", foundText(x), share, err, e)
	}
}

// measureIn reads the measure that is told of a point.
func measureIn(x api.TnFound) measureModel {
	out := measureModel{in: x.In, fault: x.Fault}
	if x.Error != "" {
		out.num = toRat(x.Error)
	}
	return out
}

// TestP10_10_Climbing: a climb does not lead to less, and nothing is greater than what a grid
// with all values finds.
func TestP10_10_Climbing(t *testing.T) {
	random := rand.New(rand.NewSource(1010))
	climbs, more, full := 0, 0, 0
	for range 600 {
		p := randomProgram(t, random)
		if random.Intn(2) == 0 {
			p = randomSteep(t, random)
		}
		steps, bits, rounds, n := random.Intn(5), random.Intn(60), random.Intn(8), 1+random.Intn(20)
		in := randomInputs(t, random, p)
		from, e := tune.Measure(p, in, steps, bits)
		if e == api.OK {
			climbs++
			to, e := tune.Climb(p, in, steps, bits, rounds)
			if e == api.OK && measureIn(to).isLess(measureIn(from)) {
				t.Errorf("a climb from %s to %s", foundText(from), foundText(to))
			}
			further, e := tune.Climb(p, in, steps, bits, rounds+3)
			if e == api.OK && measureIn(further).isLess(measureIn(to)) {
				t.Errorf("a longer climb from %s to %s, not %s", foundText(from), foundText(further), foundText(to))
			}
		}
		best, e := tune.Grid(p, n, steps, bits)
		if e != api.OK {
			continue
		}
		worst, e := tune.Worst(p, n, steps, bits, rounds)
		if e != api.OK || measureIn(worst).isLess(measureIn(best)) {
			t.Errorf("Worst from %s to %s, error %d", foundText(best), foundText(worst), e)
		}
		if measureIn(best).isLess(measureIn(worst)) {
			more++
		}
		best, e = tune.Grid(p, api.MaxPoints, steps, bits)
		if e != api.OK || !hasAllValues(t, p) {
			continue
		}
		full++
		if measureIn(best).isLess(measureIn(worst)) || measureIn(best).isLess(measureIn(from)) {
			t.Errorf("a grid with all values has %s, but not %s, %s", foundText(best), foundText(from), foundText(worst))
		}
		if t.Failed() {
			t.Fatalf("%+v", p)
		}
	}
	if climbs < 300 || more < 50 || full < 80 {
		t.Errorf("%d climbs, %d from grids, %d full grids", climbs, more, full)
	}
}

// hasAllValues reports whether the greatest grid has all values of all inputs.
func hasAllValues(t *testing.T, p api.Prog) bool {
	t.Helper()
	for i := range p.Inputs {
		if lineOf(t, p, i).count.Cmp(big.NewInt(api.MaxPoints)) > 0 {
			return false
		}
	}
	return true
}

// odd makes values of which few are valid.
type odd struct{ *rand.Rand }

func (o odd) int() int {
	l := []int{0, 1, 2, 3, 4, 5, 7, 22, 50, 51, 64, 200, 400, 1000000, 1000001, -1, math.MinInt, math.MaxInt}
	return l[o.Intn(len(l))]
}

func (o odd) text() api.Rat {
	l := []api.Rat{"0", "1", "-1/2", "1/3", "2/4", "x", "\xff", "1/0", "-0", "", "70000"}
	return l[o.Intn(len(l))]
}

// program spoils a program.
func (o odd) program(p api.Prog) api.Prog {
	for range max(0, o.Intn(6)-4) {
		switch o.Intn(8) {
		case 0:
			p.Formats = append(p.Formats, api.Format{E: o.int(), P: o.int()})
		case 1:
			p.Mode = o.int()
		case 2:
			p.Inputs = append(p.Inputs, api.Input{Format: o.int(), Lo: o.text(), Hi: o.text()})
		case 3:
			p.Nodes = append(p.Nodes, api.Node{Op: o.int(), A: o.int(), B: o.int(), C: o.int(), D: o.int(), Format: o.int(), Value: o.text()})
		case 4:
			n := &p.Nodes[o.Intn(len(p.Nodes))]
			*[]*int{&n.Op, &n.A, &n.B, &n.C, &n.D, &n.Format}[o.Intn(6)] = o.int()
		case 5:
			p.Head = o.int()
		case 6:
			p.States = append(p.States, api.State{Init: o.int(), Next: o.int()})
		case 7:
			p.Result = o.int()
		}
	}
	return p
}

// task spoils a task.
func (o odd) task(x api.TnTask) api.TnTask {
	for range max(0, o.Intn(6)-4) {
		switch o.Intn(5) {
		case 0:
			x.Groups = append(x.Groups, o.int())
		case 1:
			x.Groups[o.Intn(len(x.Groups))] = o.int()
		case 2:
			x.Costs[o.Intn(len(x.Costs))] = o.int()
		case 3:
			x.Budget = o.text()
		case 4:
			x.Plan = api.BdPlan{Bits: o.int(), Splits: o.int(), Widen: o.int()}
		}
	}
	return x
}

// spoil spoils a list, and gives it more memory than it has items.
func spoil[T any](o odd, l []T, other func() T) []T {
	out := append(make([]T, 0, len(l)+2), l...)
	if len(out) > 0 && o.Intn(8) == 0 {
		out[o.Intn(len(out))] = other()
	}
	if o.Intn(12) == 0 {
		out = append(out, other())
	}
	return out
}

// TestP10_11_AnyArguments: arguments of all kinds come to an end, and are as they were; with an
// error the other results are zero.
func TestP10_11_AnyArguments(t *testing.T) {
	o := odd{rand.New(rand.NewSource(1011))}
	good, bad := 0, 0
	for range 1200 {
		p := randomProgram(t, o.Rand)
		x := o.task(randomTask(o.Rand, p))
		x.Plan.Splits = min(x.Plan.Splits, 1)
		var formats []int
		for g := range 5 {
			for _, other := range x.Groups {
				if other == g {
					formats = append(formats, o.Intn(len(p.Formats)))
					break
				}
			}
		}
		in := spoil(o, randomInputs(t, o.Rand, p), o.text)
		formats = spoil(o, formats, o.int)
		p = o.program(p)
		before := dump(p, x, formats, in)
		callTasks(t, o, p, x, formats, &good, &bad)
		callPoints(t, o, p, in, &good, &bad)
		if dump(p, x, formats, in) != before {
			t.Fatalf("arguments have become others: %s", before)
		}
		if t.Failed() {
			t.Fatal(before)
		}
	}
	if good < 5000 || bad < 4000 {
		t.Errorf("%d calls without an error, %d with one", good, bad)
	}
}

// counter counts calls, and expects zero results with an error.
func counter(t *testing.T, good, bad *int) func(string, api.Errno, bool) {
	return func(name string, e api.Errno, zero bool) {
		t.Helper()
		if e == api.OK {
			*good++
			return
		}
		*bad++
		if !zero {
			t.Errorf("%s: results with the error %d", name, e)
		}
	}
}

func callTasks(t *testing.T, o odd, p api.Prog, x api.TnTask, formats []int, good, bad *int) {
	t.Helper()
	count := counter(t, good, bad)
	count("Check", tune.Check(p, x), true)
	cost, e := tune.Cost(p, x, formats)
	count("Cost", e, cost == 0)
	q, e := tune.Program(p, x, formats)
	count("Program", e, dump(q) == dump(api.Prog{}))
	r, e := tune.Row(p, x, formats)
	count("Row", e, rowText(r) == noRow)
	r, e = tune.Greedy(p, x, formats)
	count("Greedy", e, rowText(r) == noRow)
	if len(p.Formats) > 2 && o.Intn(4) > 0 { // tables take most of the time
		return
	}
	l, e := tune.Table(p, x)
	count("Table", e, len(l) == 0)
	r, proof, e := tune.Best(p, x)
	count("Best", e, rowText(r) == noRow && dump(proof) == dump(api.Proof{}))
	is, e := tune.Minimal(p, x, formats)
	count("Minimal", e, !is)
}

func callPoints(t *testing.T, o odd, p api.Prog, in []api.Rat, good, bad *int) {
	t.Helper()
	count := counter(t, good, bad)
	input, n, steps, bits, rounds := o.Intn(3), 1+o.Intn(6), o.Intn(4), o.Intn(60), o.Intn(5)
	if o.Intn(2) == 0 {
		*[]*int{&input, &n, &steps, &bits, &rounds}[o.Intn(5)] = o.int()
	}
	l, e := tune.Points(p, input, n)
	count("Points", e, len(l) == 0)
	x, e := tune.Measure(p, in, steps, bits)
	count("Measure", e, foundText(x) == ":")
	x, e = tune.Grid(p, n, steps, bits)
	count("Grid", e, foundText(x) == ":")
	x, e = tune.Climb(p, in, steps, bits, rounds)
	count("Climb", e, foundText(x) == ":")
	x, e = tune.Worst(p, n, steps, bits, rounds)
	count("Worst", e, foundText(x) == ":")
	share, e := tune.Share(o.text(), o.text())
	count("Share", e, share == 0)
}

// TestR4_Memory: results share no memory with arguments or with one another.
func TestR4_Memory(t *testing.T) {
	p := program(t, sum)
	x := task("-1 0 1", "2 1 4", "1")
	formats, dear, in := integers("1 1"), integers("2 2"), rats("3/2")
	before := dump(p, x, formats, dear, in)
	l, e := tune.Table(p, x)
	expectErrno(t, "Table", e, api.OK)
	for i := range l {
		rest := dump(l[i+1:])
		scrub(l[i].Formats)
		if dump(l[i+1:]) != rest {
			t.Errorf("the row %d shares memory with others", i)
		}
	}
	for range 2 {
		r, proof, e := tune.Best(p, x)
		expectErrno(t, "Best", e, api.OK)
		scrub(r.Formats)
		for _, item := range proof.Items {
			scrub(item.Claims)
		}
		scrub(proof.Items)
		r, e = tune.Row(p, x, formats)
		expectErrno(t, "Row", e, api.OK)
		scrub(r.Formats)
		for _, from := range [][]int{formats, dear} {
			r, e = tune.Greedy(p, x, from)
			expectErrno(t, "Greedy", e, api.OK)
			scrub(r.Formats)
		}
		q, e := tune.Program(p, x, formats)
		expectErrno(t, "Program", e, api.OK)
		scrub(q.Formats)
		scrub(q.Inputs)
		scrub(q.Nodes)
		points, e := tune.Points(p, 0, 5)
		expectErrno(t, "Points", e, api.OK)
		scrub(points)
		for _, find := range []func() (api.TnFound, api.Errno){
			func() (api.TnFound, api.Errno) { return tune.Measure(p, in, 0, 10) },
			func() (api.TnFound, api.Errno) { return tune.Grid(p, 3, 0, 10) },
			func() (api.TnFound, api.Errno) { return tune.Climb(p, in, 0, 10, 0) },
			func() (api.TnFound, api.Errno) { return tune.Climb(p, in, 0, 10, 5) },
			func() (api.TnFound, api.Errno) { return tune.Worst(p, 3, 0, 10, 0) },
		} {
			x, e := find()
			expectErrno(t, "a point", e, api.OK)
			scrub(x.In)
		}
		if dump(p, x, formats, dear, in) != before {
			t.Fatal("results share memory with arguments")
		}
	}
}

// scrub clears all memory that a list has.
func scrub[T any](l []T) { clear(l[:cap(l)]) }

// TestR3_Empty: empty lists are no lists.
func TestR3_Empty(t *testing.T) {
	p := program(t, "format f 2 3; let a : f = {1/3}; result a")
	q := p
	q.Inputs, q.States = []api.Input{}, []api.State{}
	none, empty := task("-1", "1", "1"), task("-1", "1", "1")
	for _, x := range []struct {
		p       api.Prog
		formats []int
		in      []api.Rat
	}{{p, nil, nil}, {q, []int{}, []api.Rat{}}} {
		expectInt(t, "Cost", 0, api.OK)(tune.Cost(x.p, none, x.formats))
		expectProgram(t, "Program", p, api.OK)(tune.Program(x.p, empty, x.formats))
		want := "costs 0, error 715827883/8589934592, fits"
		expectRow(t, "Row", want, api.OK)(tune.Row(x.p, none, x.formats))
		expectTable(t, "Table", want, api.OK)(tune.Table(x.p, none))
		expectRow(t, "Greedy", want, api.OK)(tune.Greedy(x.p, none, x.formats))
		expectBool(t, "Minimal", true, api.OK)(tune.Minimal(x.p, none, x.formats))
		expectFound(t, "Measure", ": error 5/64", api.OK)(tune.Measure(x.p, x.in, 0, 6))
		expectFound(t, "Climb", ": error 5/64", api.OK)(tune.Climb(x.p, x.in, 0, 6, 5))
		expectFound(t, "Grid", ": error 5/64", api.OK)(tune.Grid(x.p, 5, 0, 6))
		expectFound(t, "Worst", ": error 5/64", api.OK)(tune.Worst(x.p, 5, 0, 6, 5))
	}
}

// TestP1_Large: the largest tables, grids and climbs come to an end.
func TestP1_Large(t *testing.T) {
	text := threeFormats + "format d 8 30; format e 9 40; format g 10 50; input x : c from 0.5 to 1; let r0 : c = x; "
	last := "r0"
	for i := range 40 {
		text += strings.NewReplacer("NEW", "r"+string(rune('a'+i%26))+string(rune('a'+i/26)), "OLD", last).Replace("let NEW : c = OLD * x; ")
		last = "r" + string(rune('a'+i%26)) + string(rune('a'+i/26))
	}
	p := program(t, text+"result "+last)
	x := api.TnTask{Costs: integers("1 2 3 4 5 6"), Budget: "1/1000", Plan: api.BdPlan{Bits: 100, Splits: 5, Mean: true}}
	for i := range p.Nodes {
		x.Groups = append(x.Groups, max(-1, i%4-1))
	}
	x.Groups[0] = -1
	two := api.TnTask{Costs: x.Costs, Budget: x.Budget, Plan: x.Plan}
	for _, g := range x.Groups {
		two.Groups = append(two.Groups, min(g, 1))
	}
	r, _, e := tune.Best(p, two)
	t.Logf("Best: %.200s, error %d", rowText(r), e)
	r, e = tune.Greedy(p, x, integers("2 2 2"))
	t.Logf("Greedy: %.200s, error %d", rowText(r), e)
	slow := program(t, "format s 11 53; input x : s from 1 to 2; state t : s = x; loop; next t = t + sqrt(x) / 1000; end; result t")
	found, e := tune.Grid(slow, 40, 30, 2000)
	t.Logf("Grid: %.100s, error %d", foundText(found), e)
	newton := program(t, "format s 11 53; input x : s from 1 to 2; state t : s = x; loop; next t = t / 2 + x / 3; end; result t")
	found, e = tune.Worst(newton, api.MaxPoints, api.MaxSteps, api.MaxRlScale, api.MaxRounds)
	t.Logf("Worst: %.100s, error %d", foundText(found), e)
}
