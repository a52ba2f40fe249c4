package tune_test

import (
	"fmt"
	"math"
	"testing"

	"vernier/api"
	"vernier/bounds"
	"vernier/lang"
	"vernier/proofs"
	"vernier/tune"
)

const (
	threeFormats = "format a 5 11; format b 8 24; format c 11 53; "
	// sum has the operations 1 and 2.
	sum = threeFormats + "input x : a from 1 to 2; let m : b = x * x; let r : b = m + x; result r"
	// loop has the nodes: 0 the input; 1 a product that is not needed; 2 a constant, 3 a sum;
	// 4 the state; 5 a constant, 6 a quotient, 7 a constant, 8 a sum; 9 the state, 10 a
	// difference.
	loop = threeFormats + "input x : b from 1 to 2; let u : b = x * x; let m : b = x + 0.5; state t : b = m;" +
		"loop; next t = t / 2 + 0.25; end; let r : b = t - x; result r"
	loopGroups = "-1 0 0 0 1 0 1 0 1 1 2"
)

// TestP10_1_Check has each error of a task, those that are named first before the others.
func TestP10_1_Check(t *testing.T) {
	p := program(t, squareWide)
	for _, x := range []struct {
		groups, costs string
		budget        api.Rat
		e             api.Errno
	}{
		{"-1 0", "1 3", "1/1000", api.OK},
		{"-1 -1", "0 1000000", "0", api.OK},
		{"0 0", "1 3", "7", api.OK},
		{"1 0", "1 3", "7", api.OK},
		{"0 1", "1 3", api.Rat(digits(api.MaxDigits)), api.OK},
		{"0", "1 3", "1", api.ErrArg},
		{"", "1 3", "1", api.ErrArg},
		{"-1 0 0", "1 3", "1", api.ErrArg},
		{"-1 0", "1", "1", api.ErrArg},
		{"-1 0", "", "1", api.ErrArg},
		{"-1 0", "1 3 5", "1", api.ErrArg},
		{"-2 9", "1", "x", api.ErrArg},
		{"-2 0", "1 3", "1", api.ErrRange},
		{"-1 -2", "1 3", "1", api.ErrRange},
		{"0 4", "1 3", "1", api.ErrRange},
		{"-1 1", "1 3", "1", api.ErrRange},
		{"1 1", "1 3", "1", api.ErrRange},
		{"0 2", "1 3", "1", api.ErrRange},
		{"-2 0", "1 3", "x", api.ErrRange},
		{"-1 0", "-1 3", "1", api.ErrRange},
		{"-1 0", "1 1000001", "1", api.ErrRange},
		{"-1 0", "1 -3", "x", api.ErrRange},
		{"-1 0", "1 3", "", api.ErrForm},
		{"-1 0", "1 3", "2/4", api.ErrForm},
		{"-1 0", "1 3", "1e3", api.ErrForm},
		{"-1 0", "1 3", api.Rat(digits(api.MaxDigits + 1)), api.ErrLong},
		{"-1 0", "1 3", "-" + api.Rat(digits(api.MaxDigits+1)), api.ErrLong},
		{"-1 0", "1 3", "-1/1000", api.ErrRange},
	} {
		expectErrno(t, x.groups+", "+x.costs+", "+string(x.budget), tune.Check(p, task(x.groups, x.costs, x.budget)), x.e)
	}
	for _, g := range []int{math.MinInt, math.MaxInt} {
		x := example("1")
		x.Groups[0] = g
		expectErrno(t, "an extreme group", tune.Check(p, x), api.ErrRange)
		x = example("1")
		x.Costs[0] = g
		expectErrno(t, "an extreme cost", tune.Check(p, x), api.ErrRange)
	}
	x := example("1")
	x.Plan = api.BdPlan{Bits: -1, Splits: 1000, Widen: 1000}
	expectErrno(t, "a plan that is not valid", tune.Check(p, x), api.OK)
	p.Result = 2
	expectErrno(t, "a program that is not valid", tune.Check(p, api.TnTask{}), api.ErrRange)
}

// TestP10_1_Groups: at most four groups, each of which has a node.
func TestP10_1_Groups(t *testing.T) {
	p := program(t, loop)
	for groups, want := range map[string]api.Errno{
		"-1 -1 -1 -1 -1 -1 -1 -1 -1 -1 -1": api.OK,
		"3 2 1 0 -1 -1 -1 -1 -1 -1 -1":     api.OK,
		"0 1 2 3 0 1 2 3 0 1 2":            api.OK,
		"0 1 2 3 4 1 2 3 0 1 2":            api.ErrRange,
		"-1 3 2 1 -1 -1 -1 -1 -1 -1 -1":    api.ErrRange,
		"0 3 2 -1 -1 -1 -1 -1 -1 -1 -1":    api.ErrRange,
		"0 3 -1 1 -1 -1 -1 -1 -1 -1 -1":    api.ErrRange,
		"-1 -1 -1 -1 -1 -1 -1 -1 -1 -1 3":  api.ErrRange,
	} {
		expectErrno(t, groups, tune.Check(p, task(groups, "1 1 1", "1")), want)
	}
}

// TestP10_1_Cost: only operations that are needed cost something, by the formats that they
// have.
func TestP10_1_Cost(t *testing.T) {
	p := program(t, loop)
	x := task(loopGroups, "1 10 100", "1")
	for formats, want := range map[string]int{
		"0 0 0": 4,
		"1 1 1": 40,
		"2 0 1": 100 + 1 + 1 + 10, // its program is not valid
		"0 2 0": 1 + 100 + 100 + 1,
		"0 0 2": 1 + 1 + 1 + 100,
	} {
		expectInt(t, formats, want, api.OK)(tune.Cost(p, x, integers(formats)))
	}
	none := task("-1 -1 -1 -1 -1 -1 -1 -1 -1 -1 -1", "1 10 100", "1")
	expectInt(t, "formats that nodes keep", 40, api.OK)(tune.Cost(p, none, nil))
	all := task("0 0 0 0 0 0 0 0 0 0 0", "0 0 1000000", "1")
	expectInt(t, "all nodes", 4000000, api.OK)(tune.Cost(p, all, []int{2}))
	expectInt(t, "all nodes", 0, api.OK)(tune.Cost(p, all, []int{0}))
	p.Result = 0
	expectInt(t, "no operation", 0, api.OK)(tune.Cost(p, all, []int{2}))
}

// TestP10_1_Program: nodes of a group have its format, the others keep theirs; the error is
// that of lang.With.
func TestP10_1_Program(t *testing.T) {
	p := program(t, loop)
	x := task(loopGroups, "1 10 100", "1")
	for formats, want := range map[string]string{
		"1 1 1": "1 1 1 1 1 1 1 1 1 1 1",
		"0 0 2": "1 0 0 0 0 0 0 0 0 0 2",
		"2 2 0": "1 2 2 2 2 2 2 2 2 2 0",
	} {
		q, e := lang.With(p, integers(want))
		expectErrno(t, formats, e, api.OK)
		expectProgram(t, formats, q, api.OK)(tune.Program(p, x, integers(formats)))
	}
	expectProgram(t, "a state of two formats", p, lang.ErrFormat)(tune.Program(p, x, integers("0 1 1")))
	x.Groups[0] = 0
	expectProgram(t, "an input of another format", p, lang.ErrFormat)(tune.Program(p, x, integers("0 0 0")))
	expectProgram(t, "an input in a group", p, api.OK)(tune.Program(p, x, integers("1 1 1")))
	none := task("-1 -1 -1 -1 -1 -1 -1 -1 -1 -1 -1", "1 10 100", "1")
	expectProgram(t, "no groups", p, api.OK)(tune.Program(p, none, nil))
}

// TestP10_1_Assignments: errors of the program, of the task, and of the assignment.
func TestP10_1_Assignments(t *testing.T) {
	p := program(t, sum)
	invalid := p
	invalid.Mode = 5
	good := task("-1 0 1", "1 2 4", "1")
	bad := task("-1 0 2", "1 2 4", "1")
	for _, x := range []struct {
		what    string
		p       api.Prog
		task    api.TnTask
		formats string
		e       api.Errno
	}{
		{"the program", invalid, bad, "0", api.ErrArg},
		{"the task", p, bad, "0", api.ErrRange},
		{"no formats", p, good, "", api.ErrArg},
		{"too few formats", p, good, "9", api.ErrArg},
		{"too many formats", p, good, "0 0 0", api.ErrArg},
		{"a format below 0", p, good, "0 -1", api.ErrRange},
		{"a format that is none", p, good, "3 0", api.ErrRange},
		{"the last one", p, good, "2 2", api.OK},
	} {
		formats := integers(x.formats)
		_, e := tune.Cost(x.p, x.task, formats)
		expectErrno(t, "Cost: "+x.what, e, x.e)
		_, e = tune.Program(x.p, x.task, formats)
		expectErrno(t, "Program: "+x.what, e, x.e)
		_, e = tune.Row(x.p, x.task, formats)
		expectErrno(t, "Row: "+x.what, e, x.e)
		_, e = tune.Greedy(x.p, x.task, formats)
		expectErrno(t, "Greedy: "+x.what, e, x.e)
		_, e = tune.Minimal(x.p, x.task, formats)
		expectErrno(t, "Minimal: "+x.what, e, x.e)
		if x.formats == "" {
			continue
		}
		if x.e = tune.Check(x.p, x.task); x.e == api.OK {
			continue
		}
		_, e = tune.Table(x.p, x.task)
		expectErrno(t, "Table: "+x.what, e, x.e)
		_, _, e = tune.Best(x.p, x.task)
		expectErrno(t, "Best: "+x.what, e, x.e)
	}
}

// TestP10_2_Row: a row has the error that is proved, or that of lang.With, or of bounds.Derive.
func TestP10_2_Row(t *testing.T) {
	p := program(t, loop)
	x := task(loopGroups, "1 10 100", "5/16777216")
	expectRow(t, "no widening", "1 1 1 costs 40, fault 180", api.OK)(tune.Row(p, x, integers("1 1 1")))
	expectRow(t, "no program", "0 1 2 costs 121, fault 143", api.OK)(tune.Row(p, x, integers("0 1 2")))
	x.Plan.Widen = 10
	expectRow(t, "the budget", "1 1 1 costs 40, error 5/16777216, fits", api.OK)(tune.Row(p, x, integers("1 1 1")))
	expectRow(t, "no program", "0 1 2 costs 121, fault 143", api.OK)(tune.Row(p, x, integers("0 1 2")))
	x.Budget = "4999999/16777216000000"
	expectRow(t, "less than the error", "1 1 1 costs 40, error 5/16777216", api.OK)(tune.Row(p, x, integers("1 1 1")))
	x.Plan.Bits = 7
	expectRow(t, "no plan", "1 1 1 costs 40, fault 7", api.OK)(tune.Row(p, x, integers("1 1 1")))
	expectRow(t, "no program and no plan", "0 1 2 costs 121, fault 143", api.OK)(tune.Row(p, x, integers("0 1 2")))
	q := program(t, "format f 2 3; format s 8 24; input x : f from 0 to 3; let a : s = x * x; result a")
	y := task("-1 0", "1 2", "1")
	expectRow(t, "overflow", fmt.Sprint("0 costs 1, fault ", proofs.ErrFault), api.OK)(tune.Row(q, y, []int{0}))
	y.Budget = "0"
	expectRow(t, "squares that are values, which is not known", "1 costs 2, error 1/2097152", api.OK)(tune.Row(q, y, []int{1}))
	q = program(t, "format f 2 3; format s 8 24; input x : f from 0 to 3; let a : s = - x; result a")
	expectRow(t, "a budget of 0", "1 costs 2, error 0, fits", api.OK)(tune.Row(q, y, []int{1}))
}

// TestP10_2_Table: the rows of all assignments, the last group changing fastest.
func TestP10_2_Table(t *testing.T) {
	p := program(t, sum)
	want := "0 0 costs 2, error 1/256; 0 1 costs 3, error 8193/4194304; 0 2 costs 5, error 536870913/274877906944, fits;" +
		" 1 0 costs 3, error 8193/4194304; 1 1 costs 4, error 1/2097152, fits; 1 2 costs 6, error 536870913/2251799813685248, fits;" +
		" 2 0 costs 5, error 536870913/274877906944, fits; 2 1 costs 6, error 536870913/2251799813685248, fits; 2 2 costs 8, error 1/1125899906842624, fits"
	expectTable(t, "two groups", want, api.OK)(tune.Table(p, task("-1 0 1", "1 2 4", "2097153/1073741824")))
	want = "0 costs 3, error 8193/4194304; 1 costs 4, error 1/2097152, fits; 2 costs 6, error 536870913/2251799813685248, fits"
	expectTable(t, "one group", want, api.OK)(tune.Table(p, task("-1 0 -1", "1 2 4", "1/512")))
	expectTable(t, "no group", "costs 4, error 1/2097152", api.OK)(tune.Table(p, task("-1 -1 -1", "1 2 4", "0")))
	expectTable(t, "a group that costs nothing", "0 costs 4, error 1/2097152, fits; 1 costs 4, fault 143; 2 costs 4, fault 143", api.OK)(tune.Table(p, task("0 -1 -1", "1 2 4", "1")))
}

// TestP10_2_Tries: three formats for four groups are 81 assignments; more are too many.
func TestP10_2_Tries(t *testing.T) {
	lines := "input x : a from 1 to 2; let k : a = x + 1; let l : a = k + 1; let m : a = l + 1; let n : a = m + 1; result n"
	three := program(t, threeFormats+lines)
	four := program(t, threeFormats+"format d 4 5; "+lines)
	groups := "-1 0 0 1 1 2 2 3 3"
	x := task(groups, "1 2 4", "1/64")
	l, e := tune.Table(three, x)
	if len(l) != 81 || e != api.OK {
		t.Errorf("Table: %d rows, error %d", len(l), e)
	}
	r, _, e := tune.Best(three, x)
	expectRow(t, "Best", "0 0 0 0 costs 4, error 7/1024, fits", api.OK)(r, e)
	expectBool(t, "Minimal", true, api.OK)(tune.Minimal(three, x, integers("0 0 0 0")))
	x = task(groups, "1 2 4 1", "1/64")
	formats := integers("1 1 1 1")
	expectTable(t, "Table", "", api.ErrLong)(tune.Table(four, x))
	expectBest(t, "Best", "", api.Proof{}, api.ErrLong)(tune.Best(four, x))
	expectBool(t, "Minimal", false, api.ErrLong)(tune.Minimal(four, x, formats))
	expectBool(t, "Minimal", false, api.ErrRange)(tune.Minimal(four, x, integers("1 1 1 4")))
	expectRow(t, "Greedy", "0 0 0 0 costs 4, error 7/1024, fits", api.OK)(tune.Greedy(four, x, formats))
	expectRow(t, "Row", "1 1 1 1 costs 8, error 7/8388608, fits", api.OK)(tune.Row(four, x, formats))
	six := program(t, threeFormats+"format d 4 5; format e 4 6; format f 4 7;"+lines)
	expectTable(t, "6 formats", "", api.ErrLong)(tune.Table(six, task(groups, "1 2 4 1 1 1", "1")))
	expectTable(t, "6 formats for 3 groups", "", api.ErrLong)(tune.Table(six, task("-1 0 0 1 1 2 2 2 2", "1 2 4 1 1 1", "1")))
	if l, e := tune.Table(six, task("-1 0 0 1 1 1 1 1 1", "1 2 4 1 1 1", "1")); len(l) != 36 || e != api.OK {
		t.Errorf("6 formats for 2 groups: %d rows, error %d", len(l), e)
	}
}

// TestP10_3_Best: the first one with the least cost, with its proof.
func TestP10_3_Best(t *testing.T) {
	p := program(t, sum)
	for _, x := range []struct {
		costs  string
		budget api.Rat
		want   string
		e      api.Errno
	}{
		{"1 2 4", "1/256", "0 0 costs 2, error 1/256, fits", api.OK},
		{"1 2 4", "1/257", "0 1 costs 3, error 8193/4194304, fits", api.OK},
		{"1 2 4", "8193/4194304", "0 1 costs 3, error 8193/4194304, fits", api.OK},
		{"1 2 4", "2097153/1073741824", "1 1 costs 4, error 1/2097152, fits", api.OK},
		{"1 1 1", "1/256", "0 0 costs 2, error 1/256, fits", api.OK},
		{"1 1 1", "1/257", "0 1 costs 2, error 8193/4194304, fits", api.OK},
		{"4 2 1", "1", "2 2 costs 2, error 1/1125899906842624, fits", api.OK},
		{"0 0 0", "1/2097152", "1 1 costs 0, error 1/2097152, fits", api.OK},
		{"1 2 4", "1/1125899906842624", "2 2 costs 8, error 1/1125899906842624, fits", api.OK},
		{"1 2 4", "1/1125899906842625", "", api.ErrNone},
		{"1 2 4", "0", "", api.ErrNone},
	} {
		y := task("-1 0 1", x.costs, x.budget)
		var proof api.Proof
		if x.e == api.OK {
			q, _ := tune.Program(p, y, integers(x.want[:3]))
			proof, _ = bounds.Derive(q, y.Plan)
		}
		expectBest(t, x.costs+", "+string(x.budget), x.want, proof, x.e)(tune.Best(p, y))
	}
	y := task("-1 0 1", "1 2 4", "1")
	y.Plan.Bits = 0
	expectBest(t, "no plan", "", api.Proof{}, api.ErrNone)(tune.Best(p, y))
	q := program(t, loop)
	y = task(loopGroups, "1 2 4", "1")
	expectBest(t, "no proof", "", api.Proof{}, api.ErrNone)(tune.Best(q, y))
}

// TestP10_3_Greedy: step by step to the cheapest one that differs in one group.
func TestP10_3_Greedy(t *testing.T) {
	p := program(t, sum)
	for _, x := range []struct {
		costs  string
		budget api.Rat
		from   string
		want   string
		e      api.Errno
	}{
		{"1 2 4", "1/256", "2 2", "0 0 costs 2, error 1/256, fits", api.OK},
		{"1 2 4", "1/256", "0 0", "0 0 costs 2, error 1/256, fits", api.OK},
		// (0 2) costs 5, as (2 0); (0 1) costs 3.
		{"1 2 4", "1/500", "2 2", "0 1 costs 3, error 8193/4194304, fits", api.OK},
		{"1 2 4", "1/500", "1 2", "1 0 costs 3, error 8193/4194304, fits", api.OK},
		// (0 2) costs 5, and with (0 1) the error is too large: (1 1) costs less, but is not next to it.
		{"1 2 4", "2097153/1073741824", "2 2", "0 2 costs 5, error 536870913/274877906944, fits", api.OK},
		{"1 2 4", "2097153/1073741824", "2 1", "1 1 costs 4, error 1/2097152, fits", api.OK},
		{"1 2 4", "2097153/1073741824", "2 0", "2 0 costs 5, error 536870913/274877906944, fits", api.OK},
		{"3 3 3", "1", "1 2", "1 2 costs 6, error 536870913/2251799813685248, fits", api.OK},
		{"4 2 1", "1", "0 0", "2 2 costs 2, error 1/1125899906842624, fits", api.OK},
		{"1 2 4", "1/257", "0 0", "", api.ErrNone},
		{"1 2 4", "0", "2 2", "", api.ErrNone},
	} {
		what := x.costs + ", " + string(x.budget) + " from " + x.from
		expectRow(t, what, x.want, x.e)(tune.Greedy(p, task("-1 0 1", x.costs, x.budget), integers(x.from)))
	}
	expectRow(t, "no group", "costs 4, error 1/2097152, fits", api.OK)(tune.Greedy(p, task("-1 -1 -1", "1 2 4", "1"), nil))
	q := program(t, loop)
	x := task(loopGroups, "1 10 100", "1")
	expectRow(t, "no proof", "", api.ErrNone)(tune.Greedy(q, x, integers("2 2 2")))
	x.Plan.Widen = 10
	expectRow(t, "no program", "", api.ErrNone)(tune.Greedy(q, x, integers("1 2 2")))
	// From (2 2 2), programs are only those that differ in the last group.
	expectRow(t, "programs that are none", "2 2 0 costs 301, error 536870913/1099511627776, fits", api.OK)(tune.Greedy(q, x, integers("2 2 2")))
}

// TestP10_3_Minimal: whether an assignment fits, and none that costs less does.
func TestP10_3_Minimal(t *testing.T) {
	p := program(t, sum)
	for _, x := range []struct {
		costs   string
		budget  api.Rat
		formats string
		want    bool
	}{
		{"1 2 4", "1/256", "0 0", true},
		{"1 2 4", "1/256", "0 1", false},
		{"1 2 4", "1/257", "0 0", false},
		{"1 2 4", "1/257", "0 1", true},
		{"1 2 4", "1/257", "1 0", true},
		{"1 2 4", "1/257", "1 1", false},
		{"1 2 4", "2097153/1073741824", "0 2", false},
		{"1 2 4", "2097153/1073741824", "1 1", true},
		{"1 1 1", "1/256", "2 2", true},
		{"4 2 1", "1", "2 2", true},
		{"4 2 1", "1", "2 1", false},
		{"1 2 4", "0", "2 2", false},
	} {
		expectBool(t, x.costs+", "+string(x.budget)+", "+x.formats, x.want, api.OK)(tune.Minimal(p, task("-1 0 1", x.costs, x.budget), integers(x.formats)))
	}
}
