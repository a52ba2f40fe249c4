package reals_test

import (
	"math/rand"
	"strings"
	"testing"

	"vernier/api"
	"vernier/exact"
	"vernier/reals"
)

// with returns a list with more nodes, each of a kind with two nodes; a negative
// number counts back from the end of the list.
func with(l []api.RlNode, nodes ...[3]int) []api.RlNode {
	place := func(n, k int) int {
		if k < 0 {
			return n + k
		}
		return k
	}
	for _, x := range nodes {
		l = append(l, api.RlNode{Kind: x[0], A: place(len(l), x[1]), B: place(len(l), x[2])})
	}
	return l
}

// TestP3_4_Signs: signs of each kind, of numbers that are hard to tell from 0 and
// of those that are 0.
func TestP3_4_Signs(t *testing.T) {
	for text, want := range map[string]int{
		"2; sqrt 0; neg 1":                  -1,
		"2; sqrt 0; neg 1; abs 2":           1,
		"2; sqrt 0; 3/2; 1 less 2; abs 3":   1,
		"2; sqrt 0; 3/2; 1 less 2; 3 min 0": -1,
		"2; sqrt 0; 3/2; 1 less 2; 3 max 0": 1,
		"2; sqrt 0; 14142135623730950488016887242096980785696718753769/10000000000000000000000000000000000000000000000000; 1 less 2": 1,
		"2; sqrt 0; 14142135623730950488016887242096980785696718753771/10000000000000000000000000000000000000000000000000; 1 less 2": -1,
		"2; 3; sqrt 0; sqrt 1; 2 plus 3; 314626436994197234232913506571557044551/100000000000000000000000000000000000000; 4 less 5":  1,
		"2; 3; sqrt 0; sqrt 1; 2 plus 3; 314626436994197234232913506571557044553/100000000000000000000000000000000000000; 4 less 5":  -1,
		"2; 0; sqrt 0; 2 times 1; sqrt 3": 0,
		"2; sqrt 0; 1 less 1; sqrt 2":     0,
	} {
		l := list(t, text)
		expectInt(t, text, want, api.OK)(reals.Sign(l, len(l)-1))
	}
}

// TestP3_8_Zeros: nodes that are 0 are found to be 0.
func TestP3_8_Zeros(t *testing.T) {
	for _, text := range []string{
		"2; 8; sqrt 0; sqrt 1; 2 plus 2; 4 less 3",
		"2; 3; 6; sqrt 0; sqrt 1; sqrt 2; 3 times 4; 6 less 5",
		"6; 2; 3; sqrt 0; sqrt 1; sqrt 2; 4 times 5; 6 less 3",
		"6; 2; 3; sqrt 0; sqrt 1; sqrt 2; 3 by 4; 6 less 5",
		"3; 8; sqrt 1; 0 plus 2; sqrt 3; 2; sqrt 5; 1; 6 plus 7; 4 less 8",                          // root(3 + root 8) is root 2 + 1
		"3; 8; sqrt 1; 0 less 2; sqrt 3; 2; sqrt 5; 1; 6 less 7; 4 less 8",                          // root(3 - root 8) is root 2 - 1
		"5; 24; sqrt 1; 0 plus 2; sqrt 3; 2; 3; sqrt 5; 4 less 7; 8 times 8; 9 less 6",              // root(5 + root 24) is root 2 + root 3
		"2; sqrt 0; sqrt 1; 1 plus 2; 1 times 2; 3 times 3; 5 less 0; 6 less 1; 4 plus 4; 7 less 8", // of root 2 and its root
		"1; 5; sqrt 1; 0 plus 2; 2; 3 by 4; 5 times 5; 6 less 5; 7 less 0",                          // the golden ratio
		"2; sqrt 0; sqrt 0; 1 less 2",
		"1/2; 2; sqrt 0; sqrt 1; 2 times 1; 4 less 3",
		"2; sqrt 0; 1; 1 plus 2; 1 less 2; 2 by 3; 5 less 4",                               // 1 by (root 2 + 1) is root 2 - 1
		"2; 3; 5; sqrt 0; sqrt 1; sqrt 2; 3 plus 4; 6 plus 5; 0 by 7; 8 times 7; 9 less 0", // 2 by a sum of three roots, times it
		"2; sqrt 0; neg 1; abs 2; 3 less 1",
		"2; sqrt 0; 0 max 1; 1 max 0; 3 less 2",
	} {
		l := list(t, text)
		expectInt(t, text, 0, api.OK)(reals.Sign(l, len(l)-1))
		expectInt(t, text, 0, api.ErrZero)(reals.Log(l, len(l)-1))
		expectSpan(t, text, "0", "0")(reals.Enclose(l, len(l)-1, 64))
	}
}

// TestP3_8_NearZero: numbers that are as near to 0 as their weights allow, where
// enclosures of many thousand bits are needed.
func TestP3_8_NearZero(t *testing.T) {
	top, bottom := exact.Int(1), exact.Int(1)
	for top.Digits() < 1990 { // the quotients are nearer and nearer to root 2
		top, bottom = top.Add(bottom).Add(bottom), top.Add(bottom)
	}
	// top less bottom times root 2 is a power of 1 less root 2.
	l := []api.RlNode{{Kind: api.RlNum, Val: "2"}, {Kind: api.RlRoot}, {Kind: api.RlNum, Val: ratOf(t, top, bottom)}}
	l = with(l, [3]int{api.RlSub, 2, 1})
	sign := top.Mul(top).Cmp(bottom.Mul(bottom).Mul(exact.Int(2)))
	expectInt(t, "the quotient less root 2", sign, api.OK)(reals.Sign(l, 3))
	// It is about 1 divided by 2 root(2) times the square of bottom.
	k, _ := bottom.Mul(bottom).Log()
	if log, e := reals.Log(l, 3); e != api.OK || log > -k-1 || log < -k-3 {
		t.Errorf("Log of the quotient less root 2: %d, error %d", log, e)
	}
	least := two(t, -k).Mul(num(t, "1/16"))
	expectIs(t, "near 0", true, api.OK)(reals.Within(l, 3, exact.Num{}, two(t, -k)))
	expectIs(t, "not so near to 0", false, api.OK)(reals.Within(l, 3, exact.Num{}, least))
}

func ratOf(t *testing.T, top, bottom exact.Num) api.Rat {
	t.Helper()
	x, e := top.Quo(bottom)
	if e != api.OK {
		t.Fatalf("error %d", e)
	}
	return x.Text()
}

// TestP3_8_Long: zeros and signs of long numbers with three roots, at the limits of
// weights and nodes.
func TestP3_8_Long(t *testing.T) {
	l := []api.RlNode{
		{Kind: api.RlNum, Val: api.Rat(strings.Repeat("7", 150))}, {Kind: api.RlNum, Val: api.Rat(strings.Repeat("31", 75))}, {Kind: api.RlNum, Val: "1/" + nines[:150]},
		{Kind: api.RlRoot, A: 0}, {Kind: api.RlRoot, A: 1}, {Kind: api.RlRoot, A: 2}, {Kind: api.RlNum, Val: "1"},
	}
	l = with(l, [3]int{api.RlAdd, 3, 4}, [3]int{api.RlAdd, -1, 5})
	for len(l) < 297 { // x becomes 1 divided by x + 1
		l = with(l, [3]int{api.RlAdd, -1, 6}, [3]int{api.RlQuo, 6, -1})
	}
	n := len(l)
	expectInt(t, "a chain of quotients", 1, api.OK)(reals.Sign(l, n-1))
	l = with(l, [3]int{api.RlMul, n - 1, n - 2}, [3]int{api.RlSub, n, 6})
	expectInt(t, "the last quotient, times what 1 is divided by, less 1", 0, api.OK)(reals.Sign(l, n+1))
	expectInt(t, "the last quotient, times what 1 is divided by, and 1", 0, api.OK)(reals.Cmp(l, n, 6))

	l = []api.RlNode{{Kind: api.RlNum, Val: api.Rat(strings.Repeat("7", 200))}, {Kind: api.RlNum, Val: api.Rat(strings.Repeat("31", 100))}, {Kind: api.RlRoot, A: 0}, {Kind: api.RlRoot, A: 1}}
	l = with(l, [3]int{api.RlAdd, 2, 3}, [3]int{api.RlMul, 4, 4}, [3]int{api.RlRoot, 5, 0}, [3]int{api.RlSub, 6, 4})
	expectInt(t, "the root of a long square, less what it is the square of", 0, api.OK)(reals.Sign(l, 7))
}

// TestP3_7_Laws: sums, differences, products and quotients of random nodes obey the
// laws of an ordered field.
func TestP3_7_Laws(t *testing.T) {
	const add, sub, mul, quo = api.RlAdd, api.RlSub, api.RlMul, api.RlQuo
	random := rand.New(rand.NewSource(7))
	for range 400 {
		l := randomList(random, 10)
		x, y, z := random.Intn(10), random.Intn(10), random.Intn(10)
		for name, nodes := range map[string][][3]int{
			"sums commute":         {{add, x, y}, {add, y, x}},
			"products commute":     {{mul, x, y}, {mul, y, x}},
			"sums associate":       {{add, x, y}, {add, y, z}, {add, x, -1}, {add, -3, z}},
			"products associate":   {{mul, x, y}, {mul, y, z}, {mul, x, -1}, {mul, -3, z}},
			"products distribute":  {{add, y, z}, {mul, x, y}, {mul, x, z}, {mul, x, -3}, {add, -3, -2}},
			"differences undo":     {{add, x, y}, {sub, -1, y}, {add, -1, y}, {add, x, y}},
			"quotients undo":       {{mul, x, y}, {quo, -1, y}, {mul, -1, y}, {mul, x, y}},
			"quotients of squares": {{mul, y, y}, {mul, x, y}, {quo, -1, -2}, {quo, x, y}},
			"roots are undone":     {{mul, x, x}, {api.RlRoot, -1, 0}, {mul, -1, -1}, {mul, x, x}},
			"roots of squares":     {{mul, x, x}, {api.RlRoot, -1, 0}, {api.RlAbs, x, 0}},
			"sizes":                {{api.RlNeg, x, 0}, {api.RlMax, x, -1}, {api.RlAbs, x, 0}},
			"least and greatest":   {{api.RlMin, x, y}, {api.RlMax, x, y}, {add, -2, -1}, {add, x, y}},
		} {
			both := with(l, nodes...)
			order, e := reals.Cmp(both, len(both)-1, len(both)-2)
			if order != 0 && e == api.OK {
				t.Errorf("%s, of %d, %d and %d in %s: %d", name, x, y, z, textOf(l), order)
			}
		}
	}
}

// TestP3_7_Order: the order is kept by adding a node, and by multiplying by one
// above 0; the sign of a product is the product of the signs.
func TestP3_7_Order(t *testing.T) {
	random := rand.New(rand.NewSource(8))
	seen := 0
	for range 600 {
		l := randomList(random, 10)
		x, y, z := random.Intn(10), random.Intn(10), random.Intn(10)
		l = with(l, [3]int{api.RlAdd, x, z}, [3]int{api.RlAdd, y, z}, [3]int{api.RlMul, x, z}, [3]int{api.RlMul, y, z})
		order, e := reals.Cmp(l, x, y)
		sums, f := reals.Cmp(l, 10, 11)
		if e == api.OK && f == api.OK && sums != order {
			t.Errorf("%s: %d and %d have the order %d, plus %d %d", textOf(l), x, y, order, z, sums)
		}
		sign, e := reals.Sign(l, z)
		products, f := reals.Cmp(l, 12, 13)
		if e == api.OK && f == api.OK && products != order*sign {
			t.Errorf("%s: %d and %d have the order %d, times %d %d", textOf(l), x, y, order, z, products)
		}
		first, e := reals.Sign(l, x)
		product, f := reals.Sign(l, 12)
		if e == api.OK && f == api.OK {
			seen++
			if product != first*sign {
				t.Errorf("%s: %d and %d have the signs %d and %d, their product %d", textOf(l), x, z, first, sign, product)
			}
		}
		back, e := reals.Cmp(l, y, x)
		if e == api.OK && back != -order {
			t.Errorf("%s: %d and %d have the order %d, and %d", textOf(l), x, y, order, back)
		}
	}
	if seen < 300 {
		t.Errorf("only %d products had a sign", seen)
	}
}

// TestP3_4_CmpErrors: limits of both nodes together.
func TestP3_4_CmpErrors(t *testing.T) {
	l := list(t, "2; 3; 5; 7; sqrt 0; sqrt 1; sqrt 2; sqrt 3; 4 plus 5; 6 plus 7; 5 plus 6; 0 less 0; 0 by 11; -1; sqrt 13")
	expectInt(t, "two and two roots, one the same", -1, api.OK)(reals.Cmp(l, 8, 10))
	expectInt(t, "four roots", 0, api.ErrLong)(reals.Cmp(l, 8, 9))
	expectInt(t, "the error of i", 0, api.ErrZero)(reals.Cmp(l, 12, 14))
	expectInt(t, "the error of i, the other one", 0, api.ErrDomain)(reals.Cmp(l, 14, 12))
	expectInt(t, "the error of j", 0, api.ErrDomain)(reals.Cmp(l, 9, 14))
	expectInt(t, "a root and itself", 0, api.OK)(reals.Cmp(l, 9, 9))
	half := []api.RlNode{{Kind: api.RlNum, Val: nines[:1000]}, {Kind: api.RlNum, Val: nines[:1001]}, {Kind: api.RlNum, Val: "0"}}
	expectInt(t, "weights of 2000 together", 0, api.OK)(reals.Cmp(half, 0, 0))
	expectInt(t, "weights of 2001 together", 0, api.ErrLong)(reals.Cmp(half, 0, 1))
	expectInt(t, "weights of 1002 together", 1, api.OK)(reals.Cmp(half, 1, 2))
}
