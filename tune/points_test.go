package tune_test

import (
	"fmt"
	"math"
	"math/big"
	"strings"
	"testing"

	"vernier/api"
	"vernier/exact"
	"vernier/floats"
	"vernier/tune"
)

const (
	// small has the values 0, 1/4, 1/2, 3/4 and 1, whose squares have the errors 0, 1/16, 0,
	// 1/16 and 0.
	small = "format f 2 3; input x : f from 0 to 1; let a : f = x * x; result a"
	// roots has a measure only where at most three of the roots are not rational.
	roots = "format f 4 5; input x : f from 0 to 4; let a : f = sqrt(x) + sqrt(x + 1) + sqrt(x + 2) + sqrt(x + 3); result a"
	// wide has more than 2^62 values.
	wide = "format q 11 113; input x : q from 0 to 1; let a : q = x + 1; result a"
)

// input returns a program that has one input.
func input(t testing.TB, format, box string) api.Prog {
	t.Helper()
	return program(t, "format f "+format+"; input x : f from "+box+"; result x")
}

// TestP10_4_Points: the numbers of a grid are evenly spread among the values.
func TestP10_4_Points(t *testing.T) {
	all := "0 1/4 1/2 3/4 1 5/4 3/2 7/4 2 5/2 3"
	for _, x := range []struct {
		format, box string
		n           int
		want        string
	}{
		{"2 3", "0 to 3", 1, "0"},
		{"2 3", "0 to 3", 2, "0 3"},
		{"2 3", "0 to 3", 3, "0 5/4 3"},
		{"2 3", "0 to 3", 4, "0 3/4 3/2 3"},
		{"2 3", "0 to 3", 5, "0 1/2 5/4 7/4 3"},
		{"2 3", "0 to 3", 10, "0 1/4 1/2 3/4 1 5/4 3/2 7/4 2 3"},
		{"2 3", "0 to 3", 11, all},
		{"2 3", "0 to 3", 12, all},
		{"2 3", "0 to 3", 400, all},
		{"2 3", "-0.25 to 0.25", 2, "-1/4 1/4"},
		{"2 3", "-0.25 to 0.25", 3, "-1/4 0 1/4"},
		{"2 3", "-0.25 to 0.25", 4, "-1/4 0 1/4"},
		{"2 3", "-3.5 to -2", 3, "-7/2 -3 -2"},
		{"2 3", "-3.5 to 3.5", 1, "-7/2"},
		{"2 3", "2 to 2", 1, "2"},
		{"2 3", "2 to 2", 400, "2"},
		{"5 11", "0 to 1", 3, "0 3/512 1"},
		{"8 24", "1 to 2", 3, "1 3/2 2"},
		{"8 24", "1 to 2", 4, "1 5592405/4194304 13981013/8388608 2"},
		{"11 53", "0 to 1", 3, "0 " + string(threeBy(513)) + " 1"},
		{"11 53", "1 to 2", 3, "1 3/2 2"},
		{"11 113", "1 to 1", 7, "1"},
	} {
		expectPoints(t, x.format+" from "+x.box, x.want, api.OK)(tune.Points(input(t, x.format, x.box), 0, x.n))
	}
	p := program(t, "format f 2 3; format g 5 11; input x : g from 1 to 2; input y : f from 0 to 1; let a : f = x * y; result a")
	expectPoints(t, "the input 1", "0 1/4 1/2 3/4 1", api.OK)(tune.Points(p, 1, 400))
	expectPoints(t, "the input 0", "1 3/2 2", api.OK)(tune.Points(p, 0, 3))
}

// threeBy returns 3, divided by a power of two.
func threeBy(k int) api.Rat {
	x, _ := exact.Int(3).Shift(-k)
	return x.Text()
}

// TestP10_4_PointsErrors has each error, those that are named first before the others.
func TestP10_4_PointsErrors(t *testing.T) {
	p := program(t, squareWide)
	for _, n := range []int{math.MinInt, -1, 0, 401, math.MaxInt} {
		expectPoints(t, "n", "", api.ErrRange)(tune.Points(p, 0, n))
	}
	for _, i := range []int{math.MinInt, -1, 1, math.MaxInt} {
		expectPoints(t, "input", "", api.ErrRange)(tune.Points(p, i, 2))
	}
	long := program(t, wide)
	expectPoints(t, "more than 2^62 values", "", api.ErrLong)(tune.Points(long, 0, 2))
	expectPoints(t, "more than 2^62 values, no number", "", api.ErrRange)(tune.Points(long, 0, 0))
	expectPoints(t, "more than 2^62 values, no input", "", api.ErrRange)(tune.Points(long, 1, 2))
	two := program(t, "format q 11 113; format f 2 3; input x : q from 0 to 1; input y : f from 0 to 1; result y")
	expectPoints(t, "only the other one has too many", "0 1", api.OK)(tune.Points(two, 1, 2))
	p.Mode = -1
	expectPoints(t, "the program", "", api.ErrArg)(tune.Points(p, 1, 0))
}

// TestP10_4_Measure: a fault, or the error, rounded down.
func TestP10_4_Measure(t *testing.T) {
	p := program(t, small)
	for _, x := range []struct {
		in   string
		bits int
		want string
	}{
		{"1/4", 10, "1/4: error 1/16"},
		{"1/4", 4, "1/4: error 1/16"},
		{"1/4", 3, "1/4: error 0"},
		{"1/4", 0, "1/4: error 0"},
		{"3/4", 2000, "3/4: error 1/16"},
		{"1", 5, "1: error 0"},
	} {
		expectFound(t, x.in, x.want, api.OK)(tune.Measure(p, rats(x.in), 0, x.bits))
	}
	p = program(t, tiny)
	expectFound(t, "overflow", "3: fault 1 1 0", api.OK)(tune.Measure(p, rats("3"), 0, 10))
	expectFound(t, "none", "7/4: error 1/16", api.OK)(tune.Measure(p, rats("7/4"), 0, 10))
	p = program(t, "format f 4 5; input x : f from 0 to 1; state s : f = x; loop; next s = 1 / (s - 1); end; let r : f = 1 / s; result r")
	expectFound(t, "a fault in a step", "0: error 0", api.OK)(tune.Measure(p, rats("0"), 1, 3))
	expectFound(t, "a fault behind the loop", "0: fault 2 8 1", api.OK)(tune.Measure(p, rats("0"), 0, 3))
	expectFound(t, "a fault in a step", "1: fault 2 5 1", api.OK)(tune.Measure(p, rats("1"), 1, 3))
	none := program(t, "format f 2 3; let a : f = {1/3}; result a")
	expectFound(t, "no inputs", ": error 5/64", api.OK)(tune.Measure(none, nil, 0, 6))
}

// TestP10_4_MeasureErrors has each error, those that are named first before the others.
func TestP10_4_MeasureErrors(t *testing.T) {
	p := program(t, small)
	for _, x := range []struct {
		in          string
		steps, bits int
		e           api.Errno
	}{
		{"1/4", -1, 10, api.ErrRange},
		{"1/4", 201, 10, api.ErrRange},
		{"", 0, 10, api.ErrArg},
		{"1/4 1/4", 0, 10, api.ErrArg},
		{"x", 0, -1, api.ErrForm},
		{"2/4", 0, 10, api.ErrForm},
		{"1/3", 0, 10, api.ErrRange},
		{"2", 0, 10, api.ErrRange},
		{"1/4", 0, -1, api.ErrRange},
		{"1/4", 0, 2001, api.ErrRange},
		{"1/4", 200, 2000, api.OK},
	} {
		_, e := tune.Measure(p, rats(x.in), x.steps, x.bits)
		expectErrno(t, x.in, e, x.e)
	}
	far := program(t, roots)
	expectFound(t, "four roots", "", api.ErrNone)(tune.Measure(far, rats("5/2"), 0, 10))
	expectFound(t, "four roots, too many bits", "", api.ErrRange)(tune.Measure(far, rats("5/2"), 0, 2001))
	expectFound(t, "two roots", "1: error 849/8192", api.OK)(tune.Measure(far, rats("1"), 0, 13))
	many := program(t, "format f 4 5; input x : f from 0 to 1; state s : f = x; loop; next s = "+strings.Repeat("- ", 17)+"s; end; result s")
	expectFound(t, "2000 nodes", "1/2: error 0", api.OK)(tune.Measure(many, rats("1/2"), 111, 10)) // 18 in each step, and 2
	expectFound(t, "more nodes", "", api.ErrLong)(tune.Measure(many, rats("1/2"), 112, -1))
	p.Head = 1
	expectFound(t, "the program", "", api.ErrArg)(tune.Measure(p, nil, -1, -1))
}

// TestP10_4_LongMeasure: the error that is rounded down has at most 2000 digits. The program
// has the value 7/2, and over the reals one of 1999 digits and a third.
func TestP10_4_LongMeasure(t *testing.T) {
	p := program(t, "mode zero; format f 2 3; let a : f = {1"+strings.Repeat("0", 1998)+"1/3}; result a")
	for bits, digits := range map[int]int{0: 1999, 1: 1999, 3: 2000, 4: 2000} {
		x, e := tune.Measure(p, nil, 0, bits)
		if top, _, _ := strings.Cut(string(x.Error), "/"); e != api.OK || len(top) != digits {
			t.Errorf("%d bits: %d digits, error %d, want %d", bits, len(top), e, digits)
		}
	}
	expectFound(t, "5 bits", "", api.ErrNone)(tune.Measure(p, nil, 0, 5))
	expectFound(t, "5 bits", "", api.ErrNone)(tune.Grid(p, 1, 0, 5))
	expectFound(t, "5 bits", "", api.ErrNone)(tune.Climb(p, nil, 0, 5, 1))
}

// TestP10_5_Grid: the first one with the greatest measure; a fault is greater than each number.
func TestP10_5_Grid(t *testing.T) {
	for _, x := range []struct {
		text    string
		n, bits int
		want    string
	}{
		{small, 1, 10, "0: error 0"},
		{small, 2, 10, "0: error 0"},
		{small, 3, 10, "0: error 0"},
		{small, 4, 10, "1/4: error 1/16"},
		{small, 5, 10, "1/4: error 1/16"},
		{small, 5, 3, "0: error 0"},
		{small, 400, 10, "1/4: error 1/16"},
		{tiny, 1, 10, "0: error 0"},
		{tiny, 2, 10, "3: fault 1 1 0"},
		{tiny, 11, 10, "2: fault 1 1 0"},
		{roots, 2, 13, "4: error 1381/8192"},
		{roots, 9, 13, "4: error 1381/8192"}, // others have no measure
	} {
		expectFound(t, x.text, x.want, api.OK)(tune.Grid(program(t, x.text), x.n, 0, x.bits))
	}
	none := program(t, "format f 2 3; let a : f = {1/3}; result a")
	expectFound(t, "no inputs", ": error 5/64", api.OK)(tune.Grid(none, 400, 0, 6))
}

// TestP10_5_GridOrder: the last input changes fastest.
func TestP10_5_GridOrder(t *testing.T) {
	p := program(t, "format f 2 3; input x : f from 0 to 3; input y : f from 0 to 3; let a : f = x * y; result a")
	// The faults are those with a product of 15/4 and above: first of 5/4 and 3.
	expectFound(t, "all", "5/4 3: fault 1 2 0", api.OK)(tune.Grid(p, 11, 0, 10))
	expectFound(t, "three", "5/4 3: fault 1 2 0", api.OK)(tune.Grid(p, 3, 0, 10))
	expectFound(t, "two", "3 3: fault 1 2 0", api.OK)(tune.Grid(p, 2, 0, 10))
	p = program(t, "format f 2 3; input x : f from 0 to 1; input y : f from 0 to 1; let a : f = x * y; result a")
	// 1/4 by 1/2 is 1/8, halfway between 0 and 1/4, as is 1/2 by 1/4.
	expectFound(t, "numbers", "1/4 1/2: error 1/8", api.OK)(tune.Grid(p, 5, 0, 10))
	p = spikes(t, 4, [][2]int{{3, 16}})
	expectFound(t, "four inputs", "1 1 1 3/2: error 1365/524288", api.OK)(tune.Grid(p, 3, 0, 20))
	p = program(t, "format f 2 3; input x : f from 0.5 to 1; input y : f from 0 to 1; let a : f = x * y; result a")
	expectFound(t, "numbers", "1/2 1/4: error 1/8", api.OK)(tune.Grid(p, 5, 0, 10))
}

// TestP10_5_GridErrors has each error, those that are named first before the others.
func TestP10_5_GridErrors(t *testing.T) {
	p := program(t, small)
	long := program(t, wide)
	for _, q := range []api.Prog{p, long} {
		for _, x := range [][3]int{
			{0, 0, 0}, {-1, 0, 0}, {401, 0, 0}, {math.MaxInt, 0, 0}, {math.MinInt, 0, 0}, {1, -1, 0}, {1, 201, 0}, {1, 0, -1}, {1, 0, 2001},
		} {
			expectFound(t, "ErrRange", "", api.ErrRange)(tune.Grid(q, x[0], x[1], x[2]))
		}
	}
	expectFound(t, "the greatest numbers", "1/4: error 1/16", api.OK)(tune.Grid(p, 400, 200, 2000))
	expectFound(t, "more than 2^62 values", "", api.ErrLong)(tune.Grid(long, 1, 0, 10))
	two := program(t, "format f 4 6; input x : f from 1 to 2; input y : f from 1 to 2; let a : f = x * y; result a")
	if _, e := tune.Grid(two, 20, 0, 10); e != api.OK {
		t.Errorf("400 points: error %d", e)
	}
	expectFound(t, "441 points", "", api.ErrLong)(tune.Grid(two, 21, 0, 10))
	six := "format f 5 11; "
	for _, name := range []string{"a", "b", "c", "d", "e", "g"} {
		six += "input " + name + " : f from 0 to 1; "
	}
	expectFound(t, "400^6 points", "", api.ErrLong)(tune.Grid(program(t, six+"result a"), 400, 0, 10))
	if _, e := tune.Grid(program(t, six+"result a"), 2, 0, 10); e != api.OK {
		t.Errorf("64 points: error %d", e)
	}
	many := program(t, "format f 4 5; input x : f from 0 to 1; state s : f = x; loop; next s = "+strings.Repeat("- ", 17)+"s; end; result s")
	expectFound(t, "2000 nodes", "0: error 0", api.OK)(tune.Grid(many, 2, 111, 10))
	expectFound(t, "more nodes", "", api.ErrLong)(tune.Grid(many, 2, 112, 10))
	far := program(t, strings.Replace(roots, "from 0 to 4", "from 2.5 to 2.5", 1))
	expectFound(t, "no measure", "", api.ErrNone)(tune.Grid(far, 2, 0, 10))
	p.Result = -1
	expectFound(t, "the program", "", api.ErrRange)(tune.Grid(p, 1, 0, 10))
	p = program(t, small)
	p.Mode = 7
	expectFound(t, "the program", "", api.ErrArg)(tune.Grid(p, 0, -1, -1))
}

// TestP10_5_Climb: it goes to the best neighbour, as long as this is better.
func TestP10_5_Climb(t *testing.T) {
	p := program(t, small)
	for _, x := range []struct {
		in           string
		bits, rounds int
		want         string
	}{
		{"1/2", 10, 0, "1/2: error 0"},
		{"1/2", 10, 1, "1/4: error 1/16"}, // 1/4, 3/4, 1/4, 3/4
		{"1/2", 10, 50, "1/4: error 1/16"},
		{"1/2", 3, 50, "1/2: error 0"},
		{"0", 10, 1, "1/4: error 1/16"},    // 1/4, 1/2
		{"1", 10, 1, "3/4: error 1/16"},    // 3/4, 1/2
		{"3/4", 10, 50, "3/4: error 1/16"}, // no less than 1/4
	} {
		expectFound(t, "from "+x.in, x.want, api.OK)(tune.Climb(p, rats(x.in), 0, x.bits, x.rounds))
	}
	p = program(t, tiny)
	// From 1, number 4 of 11: 3/4, 5/4, 1/2 and 7/4 (number 7); from there 3/2, 2, 3/4 and 5/2.
	expectFound(t, "one round", "3/4: error 1/16", api.OK)(tune.Climb(p, rats("1"), 0, 10, 1))
	expectFound(t, "two rounds", "3/4: error 1/16", api.OK)(tune.Climb(p, rats("1"), 0, 4, 2))
	expectFound(t, "to a fault", "2: fault 1 1 0", api.OK)(tune.Climb(p, rats("7/4"), 0, 4, 1))
	expectFound(t, "from a fault", "3: fault 1 1 0", api.OK)(tune.Climb(p, rats("3"), 0, 4, 50))
	// The only error is that at 0, to which no way leads from the greatest value.
	p = program(t, "format f 2 3; input x : f from 0 to 3.5; let a : f = if x <= 0 then {1/3} else 0; result a")
	expectFound(t, "from the greatest value", "7/2: error 0", api.OK)(tune.Climb(p, rats("7/2"), 0, 10, 50))
	none := program(t, "format f 2 3; let a : f = {1/3}; result a")
	expectFound(t, "no inputs", ": error 5/64", api.OK)(tune.Climb(none, nil, 0, 6, 50))
}

// spikes returns a program with 33 values of each input, and with an error only where the
// numbers of the values are such as are listed: in each list the input, and the number. The
// error is the greater, the later the list is.
func spikes(t testing.TB, inputs int, lists ...[][2]int) api.Prog {
	t.Helper()
	text := "format f 5 6; "
	for i := range inputs {
		text += fmt.Sprintf("input x%d : f from 1 to 2; ", i)
	}
	text += "let r0 : f = 0 * 0; "
	count := 0
	for height, l := range lists {
		for _, at := range l {
			value := fmt.Sprintf("(1 + {%s})", big.NewRat(int64(at[1]), 32).RatString())
			spike := fmt.Sprintf("if x%d <= %s then if %s <= x%d then {%d/3} else 0 else 0", at[0], value, value, at[0], 1<<height)
			text += fmt.Sprintf("let r%d : f = max(r%d, %s); ", count+1, count, spike)
			count++
		}
	}
	return program(t, text+fmt.Sprintf("result r%d", count))
}

// at returns the value with a number.
func at(number int) api.Rat { return toText(big.NewRat(int64(32+number), 32)) }

// TestP10_5_Neighbours: a point that is better is found at each of the four places, and
// nowhere else.
func TestP10_5_Neighbours(t *testing.T) {
	for better := range 33 {
		p := spikes(t, 1, [][2]int{{0, better}})
		if all, e := tune.Points(p, 0, 400); e != api.OK || len(all) != 33 {
			t.Fatalf("Points: %d, error %d", len(all), e)
		}
		for i := range 33 {
			want := at(i)
			if better == i-1 || better == i+1 || better == i/2 || better == (i+33)/2 {
				want = at(better)
			}
			x, e := tune.Climb(p, []api.Rat{at(i)}, 0, 20, 1)
			if e != api.OK || len(x.In) != 1 || x.In[0] != want {
				t.Errorf("from the number %d with %d: %s, error %d, want %s", i, better, foundText(x), e, want)
			}
		}
	}
}

// TestP10_5_NeighboursOrder: of equal ones the first one is meant: inputs in their order, and
// for each the values below, above, half way to the least one, and half way to the greatest.
func TestP10_5_NeighboursOrder(t *testing.T) {
	type list = [][2]int
	for _, x := range []struct {
		lists  []list
		rounds int
		want   [2]int
	}{
		{[]list{{{0, 9}, {0, 11}, {0, 5}, {0, 21}}}, 1, [2]int{9, 10}},
		{[]list{{{0, 11}, {0, 5}, {0, 21}}}, 1, [2]int{11, 10}},
		{[]list{{{0, 5}, {0, 21}}}, 1, [2]int{5, 10}},
		{[]list{{{0, 21}, {1, 9}}}, 1, [2]int{21, 10}},
		{[]list{{{1, 21}, {1, 5}}}, 1, [2]int{10, 5}},
		{[]list{{{0, 9}}, {{0, 21}}}, 1, [2]int{21, 10}},
		{[]list{{{0, 9}}, {{1, 5}}}, 1, [2]int{10, 5}},
		{[]list{{{0, 10}, {0, 9}}}, 50, [2]int{10, 10}},
		{[]list{{{0, 10}}, {{0, 9}}}, 50, [2]int{9, 10}},
		{[]list{{{0, 11}}, {{0, 12}}}, 1, [2]int{11, 10}},
		{[]list{{{0, 11}}, {{0, 12}}}, 2, [2]int{12, 10}},
		{[]list{{{0, 11}}, {{1, 11}}, {{1, 22}}}, 2, [2]int{10, 22}}, // 11 of the input 1 is better than that of 0
		{[]list{{{0, 11}}, {{0, 12}}, {{0, 6}}}, 3, [2]int{6, 10}},
		{[]list{{{0, 11}}, {{0, 12}}, {{0, 6}}}, 2, [2]int{12, 10}},
		{[]list{{{0, 12}}, {{0, 13}}}, 50, [2]int{10, 10}}, // neither is a neighbour
	} {
		p := spikes(t, 2, x.lists...)
		y, e := tune.Climb(p, []api.Rat{at(10), at(10)}, 0, 20, x.rounds)
		if got, want := ratsText(y.In), ratsText([]api.Rat{at(x.want[0]), at(x.want[1])}); got != want || e != api.OK {
			t.Errorf("%v, %d rounds: %s, error %d, want %s", x.lists, x.rounds, got, e, want)
		}
	}
}

// TestP10_5_Far: the numbers of values are at most 2^62, and so are sums of two of them.
func TestP10_5_Far(t *testing.T) {
	x, _ := floats.Greatest(api.Format{E: 11, P: 52})
	greatest := x.Text()
	p := program(t, "format d 11 52; input x : d from 0 to {"+string(greatest)+"}; let a : d = x / 3; result a")
	l, e := tune.Points(p, 0, 3)
	if e != api.OK || len(l) != 3 || l[0] != "0" || l[2] != greatest {
		t.Errorf("Points: %.900v, error %d", l, e)
	}
	for _, in := range l {
		x, e := tune.Climb(p, []api.Rat{in}, 0, 2000, 50)
		if e != api.OK || toRat(x.Error).Sign() == 0 {
			t.Errorf("Climb from %.100s: %.900s, error %d", in, foundText(x), e)
		}
	}
}

// TestP10_5_ClimbErrors has each error, those that are named first before the others.
func TestP10_5_ClimbErrors(t *testing.T) {
	p := program(t, small)
	for _, x := range []struct {
		in                  string
		steps, bits, rounds int
		e                   api.Errno
	}{
		{"", -1, -1, -1, api.ErrRange},
		{"x", -1, -1, 51, api.ErrRange},
		{"", 0, 10, math.MinInt, api.ErrRange},
		{"", 0, 10, math.MaxInt, api.ErrRange},
		{"", -1, 10, 0, api.ErrRange},
		{"", 0, -1, 0, api.ErrArg},
		{"x", 0, -1, 50, api.ErrForm},
		{"1/3", 0, 10, 50, api.ErrRange},
		{"1/4", 0, 2001, 50, api.ErrRange},
		{"1/4", 200, 2000, 50, api.OK},
	} {
		_, e := tune.Climb(p, rats(x.in), x.steps, x.bits, x.rounds)
		expectErrno(t, fmt.Sprint(x), e, x.e)
	}
	far := program(t, roots)
	expectFound(t, "no measure", "", api.ErrNone)(tune.Climb(far, rats("5/2"), 0, 10, 0))
	long := program(t, wide)
	expectFound(t, "more than 2^62 values", "", api.ErrLong)(tune.Climb(long, rats("1/2"), 0, 10, 0))
	expectFound(t, "more than 2^62 values, no bits", "", api.ErrRange)(tune.Climb(long, rats("1/2"), 0, -1, 0))
	far = program(t, strings.Replace(roots, "format f 4 5; input x : f from 0 to 4", "format f 11 113; input x : f from 0 to 4", 1))
	expectFound(t, "more than 2^62 values, no measure", "", api.ErrNone)(tune.Climb(far, rats("5/2"), 0, 10, 0))
	p.Mode = 5
	expectFound(t, "the program", "", api.ErrArg)(tune.Climb(p, nil, -1, -1, -1))
}

// TestP10_5_Worst: it climbs from the best point of the grid.
func TestP10_5_Worst(t *testing.T) {
	p := program(t, small)
	expectFound(t, "from 0", "0: error 0", api.OK)(tune.Worst(p, 3, 0, 10, 0))
	expectFound(t, "from 0", "1/4: error 1/16", api.OK)(tune.Worst(p, 3, 0, 10, 1))
	expectFound(t, "too few bits", "0: error 0", api.OK)(tune.Worst(p, 3, 0, 3, 50))
	expectFound(t, "a fault", "3: fault 1 1 0", api.OK)(tune.Worst(program(t, tiny), 2, 0, 10, 50))
	// The values 0, 1/4, 3/2 and 2 have the numbers 0, 1, 6 and 8 of 11.
	for rounds, want := range []string{"0: error 0", "1/4: error 1/16", "3/2: error 1/4", "2: fault 1 1 0", "2: fault 1 1 0"} {
		expectFound(t, "step by step", want, api.OK)(tune.Worst(program(t, tiny), 1, 0, 10, rounds))
	}
	far := program(t, roots)
	expectFound(t, "beside points without a measure", "4: error 1381/8192", api.OK)(tune.Worst(far, 9, 0, 13, 0))
	loop := program(t, "format f 4 5; input x : f from 0 to 1; state s : f = x; loop; next s = s / 3; end; result s")
	expectFound(t, "no steps", "0: error 0", api.OK)(tune.Worst(loop, 2, 0, 10, 3))
	expectFound(t, "a step", "1: error 5/1024", api.OK)(tune.Worst(loop, 2, 1, 10, 0))
	for _, x := range []struct {
		n, steps, bits, rounds int
		e                      api.Errno
	}{
		{0, -1, -1, -1, api.ErrRange}, {2, 0, 10, -1, api.ErrRange}, {2, 0, 10, 51, api.ErrRange},
		{0, 0, 10, 5, api.ErrRange}, {401, 0, 10, 5, api.ErrRange}, {2, -1, 10, 5, api.ErrRange}, {2, 201, 10, 5, api.ErrRange}, {2, 0, -1, 5, api.ErrRange}, {2, 0, 2001, 5, api.ErrRange},
		{400, 200, 2000, 50, api.OK},
	} {
		_, e := tune.Worst(p, x.n, x.steps, x.bits, x.rounds)
		expectErrno(t, fmt.Sprint(x), e, x.e)
	}
	long := program(t, wide)
	expectFound(t, "more than 2^62 values, no rounds", "", api.ErrRange)(tune.Worst(long, 1, 0, 10, 51))
	expectFound(t, "more than 2^62 values", "", api.ErrLong)(tune.Worst(long, 1, 0, 10, 50))
	none := program(t, strings.Replace(roots, "from 0 to 4", "from 2.5 to 2.5", 1))
	expectFound(t, "no measure", "", api.ErrNone)(tune.Worst(none, 2, 0, 10, 5))
	p.Mode = 5
	expectFound(t, "the program", "", api.ErrArg)(tune.Worst(p, 0, -1, -1, -1))
}

// TestP10_6_Share: hundredths, rounded down.
func TestP10_6_Share(t *testing.T) {
	long := api.Rat(digits(api.MaxDigits + 1))
	for _, x := range []struct {
		found, bound api.Rat
		want         int
		e            api.Errno
	}{
		{"3/4", "1", 75, api.OK},
		{"0", "1/3", 0, api.OK},
		{"1", "3", 33, api.OK},
		{"2", "3", 66, api.OK},
		{"1", "101", 0, api.OK},
		{"1/3", "1/3", 100, api.OK},
		{"999/1000", "1", 99, api.OK},
		{"10000000", "1", 1000000000, api.OK},
		{"1000000000999/100000", "1", 1000000000, api.OK},
		{"1000000001/100", "1", 0, api.ErrLong},
		{"1", "1/" + api.Rat(digits(api.MaxDigits)), 0, api.ErrLong},
		{"1/" + api.Rat(digits(api.MaxDigits)), api.Rat(digits(api.MaxDigits)), 0, api.OK},
		{"1", "0", 0, api.ErrZero},
		{"0", "0", 0, api.ErrZero},
		{"-1", "0", 0, api.ErrRange},
		{"-1/2", "1", 0, api.ErrRange},
		{"1", "-1/2", 0, api.ErrRange},
		{"0", "-1", 0, api.ErrRange},
		{"x", long, 0, api.ErrForm},
		{long, "x", 0, api.ErrLong},
		{"-1", "x", 0, api.ErrForm},
		{"1", "", 0, api.ErrForm},
		{"1", long, 0, api.ErrLong},
		{"2/4", "0", 0, api.ErrForm},
	} {
		expectInt(t, string(x.found)+" of "+string(x.bound), x.want, x.e)(tune.Share(x.found, x.bound))
	}
}
