package run_test

import (
	"fmt"
	"math"
	"math/rand"
	"slices"
	"testing"

	"vernier/api"
	"vernier/exact"
	"vernier/lang"
	"vernier/run"
)

// dump writes all parts of values; those that are equal have the same dump.
func dump(values ...any) string { return fmt.Sprintf("%+v", values) }

// spoiled returns programs of which few are valid.
func spoiled(p api.Prog, random *rand.Rand) api.Prog {
	numbers := []int{0, 1, 2, 3, 5, 7, 64, -1, math.MinInt, math.MaxInt}
	texts := rats("0 1 -1/2 2/4 x \xff 1/0 -0")
	odd := func() int { return numbers[random.Intn(len(numbers))] }
	text := func() api.Rat { return texts[random.Intn(len(texts))] }
	for range random.Intn(4) {
		switch random.Intn(8) {
		case 0:
			p.Formats = append(p.Formats, api.Format{E: odd(), P: odd()})
		case 1:
			p.Mode = odd()
		case 2:
			p.Inputs = append(p.Inputs, api.Input{Format: odd(), Lo: text(), Hi: text()})
		case 3:
			p.Nodes = append(p.Nodes, api.Node{Op: odd(), A: odd(), B: odd(), C: odd(), D: odd(), Format: odd(), Value: text()})
		case 4:
			n := &p.Nodes[random.Intn(len(p.Nodes))]
			*[]*int{&n.Op, &n.A, &n.B, &n.C, &n.D, &n.Format}[random.Intn(6)] = odd()
		case 5:
			p.Head = odd()
		case 6:
			p.States = append(p.States, api.State{Init: odd(), Next: odd()})
		case 7:
			p.Result = odd()
		}
	}
	return p
}

// TestP5_12_AnyArguments: arguments of all kinds come to an end, and are as they were;
// with an error the other results are zero.
func TestP5_12_AnyArguments(t *testing.T) {
	random := rand.New(rand.NewSource(512))
	texts := rats("0 1 -1/2 1/3 2/4 x -0 100")
	good, bad := 0, 0
	for range 5000 {
		p := randomProgram(t, random)
		in := randomInputs(random, p)
		p = spoiled(p, random)
		steps := []int{0, 1, 2, 3, 5, 8, 10, 200, -1, 201, math.MaxInt, math.MinInt}[random.Intn(12)]
		if random.Intn(4) == 0 {
			in = append(in, texts[random.Intn(len(texts))])
		}
		if len(in) > 0 && random.Intn(4) == 0 {
			in[random.Intn(len(in))] = texts[random.Intn(len(texts))]
		}
		before := dump(p, in)
		input, e := run.Check(p, in, steps)
		if _, _, wrong := lang.Check(p); wrong != api.OK && (e != wrong || input != -1) {
			t.Errorf("Check: %d, error %d, want %d", input, e, wrong)
		}
		if e == api.OK {
			good++
		} else {
			bad++
		}
		for _, odd := range []bool{false, true} {
			for name, do := range withInput(odd) {
				zero, f := do(p, in, steps)
				if f != api.OK && !zero || e != api.OK && f != e {
					t.Errorf("%s of %s, %d steps: zero %v, error %d, want %d", name, before, steps, zero, f, e)
				}
			}
		}
		if count, f := run.Count(p, steps); f != api.OK && count != 0 || e == api.OK && (f != api.OK || count == 0) {
			t.Errorf("Count of %s: %d, error %d", before, count, f)
		}
		if dump(p, in) != before {
			t.Errorf("arguments have become others: %s, %s", before, dump(p, in))
		}
	}
	if good < 500 || bad < 1000 {
		t.Errorf("only %d are valid, and %d are not", good, bad)
	}
	for range 5000 {
		ints := []int{0, 1, 3, 4, 5, 8, 15, 24, -1, math.MaxInt, math.MinInt}
		pick := func() int { return ints[random.Intn(len(ints))] }
		args := slices.Repeat([]exact.Num{exact.Int(int64(pick()))}, random.Intn(6))
		x, fault, e := run.Operate(pick(), api.Format{E: pick(), P: pick()}, pick(), args)
		if e != api.OK && (x.Sign() != 0 || fault != 0) || fault != 0 && x.Sign() != 0 {
			t.Errorf("Operate: %s, fault %d, error %d", x.Text(), fault, e)
		}
	}
}

// TestR4_Memory: results share no memory with arguments or with later results.
func TestR4_Memory(t *testing.T) {
	p := program(t, "format s 8 24; input x : s from 0 to 4; state t : s = x; loop; next t = if t <= 1 then t + sqrt(x) else t - 1; end; let r : s = t * {3}; result r")
	in := slices.Grow(rats("3"), 3)
	room := in[:cap(in)]
	before := dump(p, room)
	float, realTook, _ := run.Branches(p, in, 3)
	l, at, _, e := run.Real(p, in, 3)
	values, _, _ := run.Values(p, in, 3)
	events, _ := run.Events(p, in, 3)
	if e != api.OK || at != len(l)-1 || len(float) != 3 || len(realTook) != 3 {
		t.Errorf("node %d of %v, %v, %v, error %d", at, l, float, realTook, e)
	}
	want := dump(l, values, events, float, realTook)
	clear(values[:cap(values)])
	clear(events[:cap(events)])
	clear(l[:cap(l)])
	float[0], realTook[0] = !float[0], !realTook[0]
	if dump(p, room) != before {
		t.Errorf("arguments have become others: %s, %s", before, dump(p, room))
	}
	float, realTook, _ = run.Branches(p, in, 3)
	l, _, _, _ = run.Real(p, in, 3)
	values, _, _ = run.Values(p, in, 3)
	events, _ = run.Events(p, in, 3)
	if again := dump(l, values, events, float, realTook); again != want {
		t.Errorf("results have become others: %s, %s", want, again)
	}
	args := numbers(t, "1 2 3 4")
	if x, _, e := run.Operate(api.RnEven, p.Formats[0], api.OpSel, args); x.Text() != "3" || e != api.OK || dump(args) != dump(numbers(t, "1 2 3 4")) {
		t.Errorf("Operate: %s, error %d", x.Text(), e)
	}
}

// TestR3_Empty: empty lists are no lists.
func TestR3_Empty(t *testing.T) {
	p := api.Prog{Formats: []api.Format{{E: 8, P: 24}}, Nodes: []api.Node{{Op: api.OpConst, Value: "5"}}, Head: 1, Tail: 1}
	q := p
	q.Inputs, q.States = []api.Input{}, []api.State{}
	for _, x := range []api.Prog{p, q} {
		for _, in := range [][]api.Rat{nil, {}} {
			expectNum(t, "no inputs", "5", noFault, api.OK)(run.Float(x, in, 200))
			expectReal(t, "no inputs", "5", 0, noFault, api.OK)(run.Real(x, in, 200))
			expectEvents(t, "no inputs", "")(run.Events(x, in, 200))
		}
	}
}
