package rewrite_test

import (
	"math"
	"math/rand"
	"slices"
	"testing"

	"vernier/api"
	"vernier/bounds"
	"vernier/lang"
	"vernier/reals"
	"vernier/rewrite"
	"vernier/run"
)

// TestP9_7_RealValues: where the real run of a program has no fault, that of the program after
// a step has none, and has the same value.
func TestP9_7_RealValues(t *testing.T) {
	random := rand.New(rand.NewSource(97))
	r := newRewriter()
	seen := map[string]int{}
	for range 1500 {
		p := canon(t, r.randomProgram(t, random, 4))
		if len(p.States) > 0 {
			continue
		}
		l, e := rewrite.Steps(p)
		if e != api.OK {
			t.Fatalf("Steps: error %d", e)
		}
		for range 4 {
			in := randomInputs(t, random, p)
			for _, s := range l {
				expectSameValue(t, p, s, in, seen)
			}
		}
		if t.Failed() {
			t.Fatal(text(p))
		}
	}
	for _, name := range names {
		if seen[name] < 30 {
			t.Errorf("only %d times: %s", seen[name], name)
		}
	}
	for _, what := range []string{"fault before", "no plain value"} {
		if seen[what] < 100 {
			t.Errorf("only %d times: %s", seen[what], what)
		}
	}
}

func expectSameValue(t *testing.T, p api.Prog, s api.RwStep, in []api.Rat, seen map[string]int) {
	t.Helper()
	before, at, f, e := run.Real(p, in, 0)
	switch {
	case e != api.OK:
		return
	case f.Kind != 0:
		seen["fault before"]++
		return
	}
	q := apply(t, p, s)
	after, to, f, e := run.Real(q, in, 0)
	switch {
	case e == api.ErrLong:
		return
	case e != api.OK || f.Kind != 0:
		t.Errorf("%s with %v: fault %v, error %d", stepsText([]api.RwStep{s}), in, f, e)
		return
	}
	if before[at].Kind != api.RlNum {
		seen["no plain value"]++
	}
	both := slices.Clone(before)
	for _, x := range after {
		if x.Kind != api.RlNum {
			x.A += len(before)
			if x.Kind >= api.RlAdd {
				x.B += len(before)
			}
		}
		both = append(both, x)
	}
	order, e := reals.Cmp(both, at, len(before)+to)
	if e != api.OK {
		seen["too heavy"]++ // to be compared exactly
		lo, hi, _ := reals.Enclose(before, at, 300)
		other, far, _ := reals.Enclose(after, to, 300)
		if hi.Cmp(other) < 0 || far.Cmp(lo) < 0 {
			order = 1
		}
	}
	if order != 0 {
		t.Errorf("%s with %v: another value", stepsText([]api.RwStep{s}), in)
	}
	seen[rewrite.Name(s.Rule)]++
}

// TestP9_8_Search: what is reached is canonical, and each program is there once; steps lead to
// the programs that they are said to lead to; more rounds or programs come behind.
func TestP9_8_Search(t *testing.T) {
	random := rand.New(rand.NewSource(98))
	r := newRewriter()
	for range 250 {
		p := r.randomProgram(t, random, 4)
		if len(canon(t, p).States) > 0 {
			continue
		}
		rounds, most := random.Intn(5), 1+random.Intn(api.MaxRwProgs)
		l, e := rewrite.Reach(p, rounds, most)
		if e != api.OK || len(l) > most {
			t.Fatalf("Reach: %d programs, error %d", len(l), e)
		}
		for i, q := range l {
			expectProgram(t, "canonical", q, api.OK)(canon(t, q), api.OK)
			if slices.ContainsFunc(l[:i], func(x api.Prog) bool { return lang.Same(x, q) }) {
				t.Errorf("the program %d is there twice", i)
			}
			if i%7 != 0 {
				continue
			}
			path, found, e := rewrite.Path(p, q, rounds, most)
			if !found || e != api.OK || len(path) > rounds {
				t.Errorf("Path to %d: %v, error %d", i, found, e)
			}
			expectReplay(t, "Replay", q, 0, api.OK)(rewrite.Replay(p, path))
		}
		more, e := rewrite.Reach(p, min(rounds+random.Intn(3), api.MaxRwRounds), min(most+random.Intn(50), api.MaxRwProgs))
		if e != api.OK || len(more) < len(l) {
			t.Fatalf("Reach with more: %d programs of %d, error %d", len(more), len(l), e)
		}
		expectPrograms(t, "more", l, api.OK)(more[:len(l)], api.OK)
		if t.Failed() {
			t.Fatal(text(p))
		}
	}
}

// TestP9_9_Better: the bound is that of the program, and at most that of the canonical form.
func TestP9_9_Better(t *testing.T) {
	random := rand.New(rand.NewSource(99))
	r := newRewriter()
	less := 0
	for range 300 {
		p := r.randomProgram(t, random, 4)
		if len(canon(t, p).States) > 0 {
			continue
		}
		plan := randomPlan(random)
		q, l, bound, e := rewrite.Best(p, plan, random.Intn(4), 1+random.Intn(40))
		first, firstE := bounds.Error(canon(t, p), plan)
		if e != api.OK {
			if e != firstE {
				t.Errorf("Best: error %d, but that of the first one is %d", e, firstE)
			}
			continue
		}
		expectReplay(t, "Replay", q, 0, api.OK)(rewrite.Replay(p, l))
		x, e := bounds.Error(q, plan)
		if e != api.OK || x.Text() != bound {
			t.Errorf("Best: the bound %s, but Error %s, error %d", bound, x.Text(), e)
		}
		if firstE == api.OK {
			if x.Cmp(first) > 0 {
				t.Errorf("Best: the bound %s, but that of the canonical form is %s", bound, first.Text())
			}
			if x.Cmp(first) < 0 {
				less++
			}
		}
		if t.Failed() {
			t.Fatal(text(p))
		}
	}
	if less < 50 {
		t.Errorf("only %d bounds become less", less)
	}
}

// TestP9_10_Back: add-swap, and mul-swap, at the result twice changes nothing.
func TestP9_10_Back(t *testing.T) {
	random := rand.New(rand.NewSource(910))
	r := newRewriter()
	count := 0
	for range 4000 {
		p := canon(t, r.randomProgram(t, random, 5))
		for _, rule := range []string{"add-swap", "mul-swap"} {
			q, e := rewrite.Apply(p, step(t, rule, p.Result))
			if e != api.OK {
				continue
			}
			count++
			expectProgram(t, rule, p, api.OK)(rewrite.Apply(q, step(t, rule, q.Result)))
		}
	}
	if count < 500 {
		t.Errorf("only %d times", count)
	}
}

// odd makes values of which few are valid.
type odd struct{ *rand.Rand }

func (o odd) int() int {
	l := []int{0, 1, 2, 3, 4, 5, 7, 22, 40, 41, 64, 200, -1, math.MinInt, math.MaxInt}
	return l[o.Intn(len(l))]
}

func (o odd) text() api.Rat {
	l := []api.Rat{"0", "1", "-1/2", "1/3", "2/4", "x", "\xff", "1/0", "-0", "", "70000"}
	return l[o.Intn(len(l))]
}

// program spoils a program.
func (o odd) program(p api.Prog) api.Prog {
	for range max(0, o.Intn(5)-3) {
		switch o.Intn(8) {
		case 0:
			p.Formats = append(p.Formats, api.Format{E: o.int(), P: o.int()})
		case 1:
			p.Mode = o.int()
		case 2:
			p.Inputs = append(p.Inputs, api.Input{Format: o.int(), Lo: o.text(), Hi: o.text()})
		case 3:
			p.Nodes = append(p.Nodes, api.Node{Op: o.int(), A: o.int(), B: o.int(), C: o.int(), D: o.int(), Format: o.int(), Value: o.text()})
		case 4:
			n := &p.Nodes[o.Intn(len(p.Nodes))]
			*[]*int{&n.Op, &n.A, &n.B, &n.C, &n.D, &n.Format}[o.Intn(6)] = o.int()
		case 5:
			p.Head = o.int()
		case 6:
			p.States = append(p.States, api.State{Init: o.int(), Next: o.int()})
		case 7:
			p.Result = o.int()
		}
	}
	return p
}

// TestP9_11_AnyArguments: arguments of all kinds come to an end, and are as they were; with an
// error the other results are zero.
func TestP9_11_AnyArguments(t *testing.T) {
	o := odd{rand.New(rand.NewSource(911))}
	r := newRewriter()
	good, bad := 0, 0
	for range 1500 {
		p, q := o.program(r.randomProgram(t, o.Rand, 3)), r.randomProgram(t, o.Rand, 3)
		var l []api.RwStep
		if known, _ := rewrite.Steps(p); len(known) > 0 {
			l = append(l, known[o.Intn(len(known))])
		}
		for range o.Intn(3) {
			l = append(l, api.RwStep{Rule: o.int(), Node: o.int()})
		}
		plan := randomPlan(o.Rand)
		if o.Intn(4) == 0 {
			plan.Bits = o.int()
		}
		before := dump(p, q, l, plan)
		callAll(t, o, p, q, l, plan, &good, &bad)
		if dump(p, q, l, plan) != before {
			t.Fatalf("arguments have become others: %s", before)
		}
		if t.Failed() {
			t.Fatal(before)
		}
	}
	if good < 1000 || bad < 1000 {
		t.Errorf("%d calls without an error, %d with one", good, bad)
	}
}

// callAll calls all functions, and looks at what they return with an error.
func callAll(t *testing.T, o odd, p, q api.Prog, l []api.RwStep, plan api.BdPlan, good, bad *int) {
	t.Helper()
	c, _, invalid := lang.Canon(p)
	if invalid == api.OK && len(c.States) > 0 {
		invalid = rewrite.ErrState
	}
	count := func(name string, e api.Errno, zero bool) {
		t.Helper()
		if invalid != api.OK && e != invalid {
			t.Errorf("%s: error %d, want that of the program, %d", name, e, invalid)
		}
		if e == api.OK {
			*good++
			return
		}
		*bad++
		if !zero {
			t.Errorf("%s: results with the error %d", name, e)
		}
	}
	s := api.RwStep{Rule: o.int(), Node: o.int()}
	if len(l) > 0 {
		s = l[0]
	}
	rounds, most := o.Intn(3), 1+o.Intn(8)
	if o.Intn(4) == 0 {
		rounds, most = o.int(), min(o.int(), 300)
	}
	x, e := rewrite.Apply(p, s)
	count("Apply", e, lang.Same(x, api.Prog{}))
	steps, e := rewrite.Steps(p)
	count("Steps", e, len(steps) == 0)
	x, at, e := rewrite.Replay(p, l)
	count("Replay", e, lang.Same(x, api.Prog{}) && at >= 0 && at <= len(l))
	list, e := rewrite.Reach(p, rounds, most)
	count("Reach", e, len(list) == 0)
	steps, found, e := rewrite.Path(p, q, rounds, most)
	count("Path", e, len(steps) == 0 && !found)
	x, steps, bound, e := rewrite.Best(p, plan, rounds, most)
	count("Best", e, lang.Same(x, api.Prog{}) && len(steps) == 0 && bound == "")
}

// scrub clears all memory that a program has.
func scrub(p api.Prog) {
	clear(p.Formats[:cap(p.Formats)])
	clear(p.Inputs[:cap(p.Inputs)])
	clear(p.Nodes[:cap(p.Nodes)])
	clear(p.States[:cap(p.States)])
}

// TestR4_Memory: results share no memory with arguments or with one another.
func TestR4_Memory(t *testing.T) {
	p := canon(t, expression(t, "(x * 1) * y + z"))
	before := dump(p)
	l, e := rewrite.Reach(p, 3, 30)
	if e != api.OK || len(l) != 30 {
		t.Fatalf("Reach: %d programs, error %d", len(l), e)
	}
	for i := range l {
		rest := dump(l[i+1:])
		scrub(l[i])
		if dump(l[i+1:]) != rest {
			t.Errorf("the program %d shares memory with others", i)
		}
	}
	path := steps(t, "mul-swap 5")
	for _, make := range []func() (api.Prog, api.Errno){
		func() (api.Prog, api.Errno) { return rewrite.Apply(p, path[0]) },
		func() (api.Prog, api.Errno) { q, _, e := rewrite.Replay(p, nil); return q, e },
		func() (api.Prog, api.Errno) { q, _, e := rewrite.Replay(p, path); return q, e },
		func() (api.Prog, api.Errno) {
			q, l, _, e := rewrite.Best(p, api.BdPlan{Bits: 30}, 0, 1)
			clear(l[:cap(l)])
			return q, e
		},
		func() (api.Prog, api.Errno) { q, _, _, e := rewrite.Best(p, api.BdPlan{Bits: 30}, 2, 20); return q, e },
	} {
		q, e := make()
		if e != api.OK {
			t.Fatalf("error %d", e)
		}
		scrub(q)
	}
	if dump(p) != before || stepsText(path) != "mul-swap 5" {
		t.Error("results share memory with arguments")
	}
}

// TestR3_Empty: empty lists are no lists.
func TestR3_Empty(t *testing.T) {
	p := program(t, "format s 8 24; let a : s = 2; let b : s = a + a; result b")
	q := p
	q.Inputs, q.States = []api.Input{}, []api.State{}
	four := canon(t, program(t, "format s 8 24; let b : s = 4; result b"))
	for _, x := range []api.Prog{p, q} {
		expectSteps(t, "Steps", "add-swap 1, double 1, fold 1", api.OK)(rewrite.Steps(x))
		expectProgram(t, "Apply", four, api.OK)(rewrite.Apply(x, step(t, "fold", 1)))
		expectPath(t, "Path", "", true, api.OK)(rewrite.Path(p, x, 0, 1))
		expectPath(t, "Path", "", true, api.OK)(rewrite.Path(x, p, 0, 1))
		for _, l := range [][]api.RwStep{nil, {}} {
			expectReplay(t, "Replay", p, 0, api.OK)(rewrite.Replay(x, l))
		}
	}
}

// TestP1_Large: the longest searches, of programs with as many nodes, and with constants as
// long, as there may be, come to an end.
func TestP1_Large(t *testing.T) {
	long := "{" + digits(api.MaxDigits) + "/3}"
	p := canon(t, expression(t, "min(max(x * y + x * z, abs(z)), sqrt(x) - sqrt(y)) + "+long+" * "+long))
	for len(p.Nodes) < api.MaxNodes-8 {
		n := len(p.Nodes)
		p.Nodes = append(p.Nodes, api.Node{Op: api.OpAdd, A: n - 1, B: n - 2})
	}
	p.Head, p.Tail, p.Result = len(p.Nodes), len(p.Nodes), len(p.Nodes)-1
	l, e := rewrite.Reach(p, api.MaxRwRounds, api.MaxRwProgs)
	if e != api.OK || len(l) != api.MaxRwProgs {
		t.Errorf("Reach: %d programs, error %d", len(l), e)
	}
	if _, found, e := rewrite.Path(p, l[len(l)-1], api.MaxRwRounds, api.MaxRwProgs); !found || e != api.OK {
		t.Errorf("Path: %v, error %d", found, e)
	}
	q, path, bound, e := rewrite.Best(p, api.BdPlan{Bits: api.MaxBdBits, Mean: true, Squares: true}, api.MaxRwRounds, api.MaxRwProgs)
	t.Logf("Best: %d nodes, %s, %.100s, error %d", len(q.Nodes), stepsText(path), bound, e)
}
