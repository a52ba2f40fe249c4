package run_test

import (
	"math"
	"math/big"
	"math/rand"
	"strings"
	"testing"

	"vernier/api"
	"vernier/exact"
	"vernier/run"
)

// expectValues expects what Values tells, as in "0 0 1; 2 1 3/2": node, step, value.
func expectValues(t *testing.T, what string, p api.Prog, in string, steps int, want string, wantF api.RnFault) {
	t.Helper()
	l, f, e := run.Values(p, rats(in), steps)
	if text := valuesText(l); text != want || f != wantF || e != api.OK {
		t.Errorf("%s: %s, fault %v, error %d, want %s, fault %v", what, text, f, e, want, wantF)
	}
	x := api.Rat("0")
	if wantF == noFault {
		x = api.Rat(want[strings.LastIndex(want, " ")+1:])
	}
	expectNum(t, what, x, wantF, api.OK)(run.Float(p, rats(in), steps))
}

// TestP5_2_Order: the head, each step, and the rest, with needed nodes alone.
func TestP5_2_Order(t *testing.T) {
	p := program(t, newton)
	expectValues(t, "no step", p, "2", 0, "0 0 2; 6 1 2", noFault)
	expectValues(t, "1 step", p, "2", 1, "0 0 2; 1 1 2; 2 1 1; 3 1 3; 4 1 2; 5 1 3/2; 6 2 3/2", noFault)
	expectValues(t, "without a loop", program(t, half), "1/2", 3, "0 0 1/2; 1 0 1; 2 0 3/2; 3 0 1; 4 0 1/2", noFault)
	unneeded := single(t, "input x : s from 0 to 1; let a : s = 1 / 0; let b : s = x + x; let c : s = sqrt(-b); let r : s = b")
	expectValues(t, "nodes that are not needed", unneeded, "1", 0, "0 0 1; 4 0 2", noFault)
	states := "state t : s = a; state u : s = 3; loop; next t = t + 1; next u = u / 0; end; let r : s = -t"
	expectValues(t, "a state that is not needed", single(t, "let a : s = 2; "+states), "", 2, "0 0 2; 2 1 2; 4 1 1; 5 1 3; 2 2 3; 4 2 1; 5 2 4; 8 3 4; 10 3 -4", noFault)
}

// TestP5_2_States: all states change at once; Init and Next may be in the head, or a
// state themselves.
func TestP5_2_States(t *testing.T) {
	turn := single(t, "state a : s = 1; state b : s = 2; state c : s = 4; loop; next a = b; next b = c; next c = a; end; let r : s = a + b - c")
	for steps, want := range []api.Rat{"-1", "5", "3", "-1", "5"} {
		expectNum(t, "states that change places", want, noFault, api.OK)(run.Float(turn, nil, steps))
	}
	expectValues(t, "states that change places", turn, "", 1, "0 0 1; 1 0 2; 2 0 4; 3 1 1; 4 1 2; 5 1 4; 6 2 2; 7 2 4; 8 2 1; 9 2 6; 10 2 5", noFault)
	// Next of a is in the head: 7 from the first step on. There is nothing to do in the
	// body.
	head := single(t, "let k : s = 7; state a : s = 1; loop; next a = k; end; let r : s = a")
	for steps, want := range []string{"0 0 7; 1 0 1; 3 1 1", "0 0 7; 1 0 1; 3 2 7", "0 0 7; 1 0 1; 3 3 7"} {
		expectValues(t, "a Next of the head", head, "", steps, want, noFault)
	}
	still := single(t, "state a : s = 5; loop; next a = a; end; let r : s = a")
	expectValues(t, "a Next that is the state", still, "", 2, "0 0 5; 1 1 5; 1 2 5; 2 3 5", noFault)
	later := single(t, "let k : s = 7; state a : s = 1; state b : s = 2; loop; next b = a; next a = k; end; let r : s = b")
	for steps, want := range []api.Rat{"2", "1", "7", "7"} {
		expectNum(t, "a state behind another one", want, noFault, api.OK)(run.Float(later, nil, steps))
	}
}

// TestP5_2_Rounding: each operation is rounded once, in the mode of the program, to
// the format of its node.
func TestP5_2_Rounding(t *testing.T) {
	// f has the values 0, 1/16, .., 14 of chapter 2; s has many more.
	for _, c := range []struct{ mode, expr, want string }{
		{"even", "f({1/3})", "5/16"}, {"up", "f({1/3})", "3/8"}, {"away", "f({9/2})", "5"}, {"even", "f({9/2})", "4"},
		{"down", "f(y)", "1"}, {"up", "f(y)", "5/4"}, {"zero", "f(-y)", "-1"}, {"down", "f(-y)", "-5/4"},
		{"even", "f(y * y)", "5/4"}, {"up", "f(y / 3)", "3/8"}, {"down", "f(y + 3)", "4"}, {"up", "f(y - 3)", "-7/4"},
		{"zero", "f(abs(-y))", "1"}, {"up", "f(min(y, 3))", "5/4"}, {"down", "f(max(y, {1/3}))", "1"},
		{"up", "f(sqrt(2))", "3/2"}, {"down", "f(sqrt(2))", "5/4"}, {"even", "f(sqrt(y))", "1"}, {"even", "f(sqrt({9/4}))", "3/2"},
		{"down", "f(fma(y, y, -1))", "1/4"}, {"up", "f(fma(y, y, -1))", "5/16"},
		{"up", "f(if 1 <= y then y else 1)", "5/4"}, {"down", "f(if y <= 1 then 1 else y)", "1"},
		{"even", "f({1/40})", "0"}, {"up", "f({1/40})", "1/16"}, {"up", "f(-{1/40})", "-1/16"}, {"up", "f(-y / {14})", "-1/16"}, {"zero", "f({100})", "14"}, {"down", "f({100})", "14"}, {"zero", "f(-{100})", "-14"},
	} {
		p := program(t, "mode "+c.mode+"; format f 3 3; format s 8 24; input y : s from {9/8} to {9/8}; let r : f = "+c.expr+"; result r")
		expectNum(t, c.mode+" "+c.expr, api.Rat(c.want), noFault, api.OK)(run.Float(p, rats("9/8"), 0))
	}
	// A sum of two products, each of which is rounded, and one that is rounded once.
	p := program(t, "format f 3 3; input x : f from {5/4} to {5/4}; let a : f = x * x - {3/2}; let b : f = fma(x, x, -{3/2}); let r : f = a + b; result r")
	expectValues(t, "rounded once", p, "5/4", 0, "0 0 5/4; 1 0 3/2; 2 0 3/2; 3 0 0; 4 0 3/2; 5 0 -3/2; 6 0 1/16; 7 0 1/16", noFault)
}

// TestP5_2_Faults: a run ends at the first node without a value.
func TestP5_2_Faults(t *testing.T) {
	for _, c := range []struct {
		mode, lines, values string
		f                   api.RnFault
	}{
		{"even", "let r : f = {15}", "", fault(api.RnOverflow, 0, 0)},
		{"even", "let r : f = {29/2}", "0 0 14", noFault},
		{"up", "let r : f = {29/2}", "", fault(api.RnOverflow, 0, 0)},
		{"down", "let r : f = -{29/2}", "0 0 14; 1 0 -14", noFault},
		{"down", "let r : f = {1} - {100}", "0 0 1; 1 0 14; 2 0 -14", noFault},
		{"down", "let r : f = -{7} - {8}", "0 0 7; 1 0 -7; 2 0 8", fault(api.RnOverflow, 3, 0)},
		{"away", "let r : f = {4} * {4}", "0 0 4; 1 0 4", fault(api.RnOverflow, 2, 0)},
		{"even", "let a : f = {1} / {0}; let b : f = sqrt(-{1}); let r : f = a + b", "0 0 1; 1 0 0", fault(api.RnZero, 2, 0)},
		{"even", "let a : f = {1} / {3}; let b : f = sqrt(-{1}); let r : f = a + b", "0 0 1; 1 0 3; 2 0 5/16; 3 0 1; 4 0 -1", fault(api.RnRoot, 5, 0)},
		{"even", "let r : f = {0} / {0}", "0 0 0; 1 0 0", fault(api.RnZero, 2, 0)},
		{"even", "let r : f = {1} / ({1/40} * {1/2})", "0 0 1; 1 0 0; 2 0 1/2; 3 0 0", fault(api.RnZero, 4, 0)},
		{"even", "let r : f = if {0} <= {1} then {20} else {1}", "0 0 0; 1 0 1", fault(api.RnOverflow, 2, 0)},
		{"even", "let r : f = {14} / {1/16}", "0 0 14; 1 0 1/16", fault(api.RnOverflow, 2, 0)},
		{"even", "let r : f = fma({4}, {4}, {1})", "0 0 4; 1 0 4; 2 0 1", fault(api.RnOverflow, 3, 0)},
		{"even", "let r : f = fma({4}, {4}, -{4})", "0 0 4; 1 0 4; 2 0 4; 3 0 -4; 4 0 12", noFault},
		{"even", "state a : f = {1}; loop; next a = a / (a - {1/2}); end; let r : f = a", "0 0 1; 1 1 1; 2 1 1/2; 3 1 1/2; 4 1 2; 1 2 2; 2 2 1/2; 3 2 3/2; 4 2 5/4; 5 3 5/4", noFault},
		{"even", "state a : f = {1}; loop; next a = a - {1/2}; end; let r : f = {1} / a", "0 0 1; 1 1 1; 2 1 1/2; 3 1 1/2; 1 2 1/2; 2 2 1/2; 3 2 0; 4 3 0; 5 3 1", fault(api.RnZero, 6, 3)},
		{"even", "state a : f = {8}; loop; next a = a + a; end; let r : f = a", "0 0 8; 1 1 8", fault(api.RnOverflow, 2, 1)},
		{"even", "state a : f = {4}; loop; next a = a + a; end; let r : f = a", "0 0 4; 1 1 4; 2 1 8; 1 2 8", fault(api.RnOverflow, 2, 2)},
	} {
		p := program(t, "mode "+c.mode+"; format f 3 3; "+c.lines+"; result r")
		l, f, e := run.Values(p, nil, 2)
		if text := valuesText(l); text != c.values || f != c.f || e != api.OK {
			t.Errorf("%s: %s, fault %v, error %d, want %s, fault %v", c.lines, text, f, e, c.values, c.f)
		}
	}
	wide := program(t, "format f 3 3; format s 8 24; input y : s from -100 to 100; let r : f = if y <= 1 then 1 else f(y); result r")
	expectNum(t, "a cast beyond the format", "0", fault(api.RnOverflow, 3, 0), api.OK)(run.Float(wide, rats("16"), 0))
	root := program(t, "format f 2 4; format s 8 24; input y : s from 0 to 100; let a : s = abs(y); let r : f = sqrt(a); result r")
	expectNum(t, "a root beyond the format", "0", fault(api.RnOverflow, 2, 0), api.OK)(run.Float(root, rats("16"), 0))
	expectNum(t, "a root in the format", "5/2", noFault, api.OK)(run.Float(root, rats("25/4"), 0))
}

// TestP5_2_Hardware compares with the hardware's numbers of 64 bits.
func TestP5_2_Hardware(t *testing.T) {
	p := program(t, "format d 11 53; input x : d from -1000 to 1000; input y : d from -1000 to 1000; state a : d = x; state b : d = y; loop;"+
		"let m : d = fma(a, b, x) / (abs(b) + 1); next a = if m <= a then sqrt(abs(m - y)) else min(m, b); next b = max(a * x - m, -b); end; let r : d = a - b * a; result r")
	random := rand.New(rand.NewSource(52))
	text := func(x float64) api.Rat { return toText(new(big.Rat).SetFloat64(x)) }
	for range 400 {
		x, y := (random.Float64()-0.5)*math.Exp2(float64(random.Intn(11))), (random.Float64()-0.5)*math.Exp2(float64(random.Intn(11)-5))
		steps := random.Intn(20)
		a, b := x, y
		for range steps {
			m := math.FMA(a, b, x) / (math.Abs(b) + 1)
			next := min(m, b)
			if m <= a {
				next = math.Sqrt(math.Abs(m - y))
			}
			product := a * x
			a, b = next, max(float64(product)-m, -b)
		}
		product := b * a
		want := a - float64(product)
		if math.IsInf(want, 0) || math.IsNaN(want) {
			continue
		}
		expectNum(t, "hardware", text(want), noFault, api.OK)(run.Float(p, []api.Rat{text(x), text(y)}, steps))
	}
}

// TestP5_7_Operate compares all operations with the model, in all modes.
func TestP5_7_Operate(t *testing.T) {
	random := rand.New(rand.NewSource(57))
	formats := []api.Format{{E: 3, P: 3}, {E: 2, P: 3}, {E: 5, P: 11}, {E: 8, P: 24}, {E: 11, P: 53}, {E: 11, P: 113}, {E: 4, P: 2}}
	faults := map[int]int{}
	for range 40000 {
		f, mode, op := formats[random.Intn(len(formats))], random.Intn(5), api.OpNeg+random.Intn(12)
		var args []exact.Num
		var in []*big.Rat
		for range operandsModel(api.Node{Op: op}) {
			x := randomRat(random)
			in = append(in, x)
			args = append(args, number(t, toText(x)))
		}
		want, wantFault := operateModel(f, mode, op, in)
		faults[wantFault]++
		if wantFault != 0 {
			want = zero
		}
		if x, fault, e := run.Operate(mode, f, op, args); x.Text() != toText(want) || fault != wantFault || e != api.OK {
			t.Fatalf("operation %d of %v to %v in mode %d: %s, fault %d, error %d, want %s, fault %d", op, in, f, mode, x.Text(), fault, e, want, wantFault)
		}
	}
	for kind := range 4 {
		if faults[kind] < 150 {
			t.Errorf("only %d with the fault %d", faults[kind], kind)
		}
	}
}

// randomRat returns a number: often one with few bits, or near to such a number.
func randomRat(random *rand.Rand) *big.Rat {
	x := big.NewRat(int64(random.Intn(65)-32), 1)
	x.Mul(x, twoTo(random.Intn(13)-8))
	switch random.Intn(6) {
	case 0:
		x.Add(x, twoTo(-random.Intn(1200)))
	case 1:
		x.Mul(x, big.NewRat(1, int64(1+random.Intn(50))))
	case 2:
		x.Mul(x, twoTo(random.Intn(2400)-1200))
	case 3:
		x.SetInt64(int64(random.Intn(3)))
	}
	return x
}

// TestP5_7_Errors: modes, operations, how many args, and formats that are none.
func TestP5_7_Errors(t *testing.T) {
	good := api.Format{E: 8, P: 24}
	for _, c := range []struct {
		mode int
		f    api.Format
		op   int
		args string
		e    api.Errno
	}{
		{0, good, api.OpAdd, "1 2", api.OK}, {4, good, api.OpSel, "1 2 3 4", api.OK}, {0, good, api.OpNeg, "1", api.OK}, {0, good, api.OpFma, "1 2 3", api.OK},
		{-1, good, api.OpAdd, "1 2", api.ErrArg}, {5, good, api.OpAdd, "1 2", api.ErrArg},
		{0, good, api.OpInput, "1", api.ErrArg}, {0, good, api.OpState, "1", api.ErrArg}, {0, good, api.OpConst, "1", api.ErrArg}, {0, good, api.OpConst, "", api.ErrArg},
		{0, good, 0, "", api.ErrArg}, {0, good, 16, "1 2 3 4", api.ErrArg}, {0, good, -4, "1", api.ErrArg}, {0, good, math.MaxInt, "", api.ErrArg}, {0, good, math.MinInt, "", api.ErrArg},
		{0, good, api.OpAdd, "1", api.ErrArg}, {0, good, api.OpAdd, "1 2 3", api.ErrArg}, {0, good, api.OpNeg, "", api.ErrArg}, {0, good, api.OpSel, "1 2 3", api.ErrArg},
		{0, api.Format{E: 1, P: 24}, api.OpAdd, "1 2", api.ErrArg}, {0, api.Format{E: 2, P: 2}, api.OpAdd, "1 2", api.ErrArg}, {0, api.Format{}, api.OpDiv, "1 0", api.ErrArg},
	} {
		x, fault, e := run.Operate(c.mode, c.f, c.op, numbers(t, c.args))
		if e != c.e || fault != 0 || e != api.OK && x.Sign() != 0 || e == api.OK && x.Sign() == 0 {
			t.Errorf("%+v: %s, fault %d, error %d", c, x.Text(), fault, e)
		}
	}
	// Numbers that no format has.
	three, _ := exact.Ratio(1, 3)
	huge, _ := exact.Two(20000)
	huge = huge.Mul(huge).Mul(three)
	for op, want := range map[int]int{api.OpNeg: api.RnOverflow, api.OpSqrt: api.RnOverflow, api.OpCast: api.RnOverflow} {
		if x, fault, e := run.Operate(api.RnAway, good, op, []exact.Num{huge}); x.Sign() != 0 || fault != want || e != api.OK {
			t.Errorf("operation %d of a huge number: fault %d, error %d", op, fault, e)
		}
	}
	if x, fault, e := run.Operate(api.RnUp, good, api.OpDiv, []exact.Num{exact.Int(1), huge}); x.Text() != api.Rat(toText(twoTo(-149))) || fault != 0 || e != api.OK {
		t.Errorf("1 by a huge number: %s, fault %d, error %d", x.Text(), fault, e)
	}
}
