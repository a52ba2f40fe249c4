package reals_test

import (
	"math/big"
	"math/rand"
	"slices"
	"testing"

	"vernier/api"
	"vernier/exact"
	"vernier/floats"
	"vernier/reals"
)

// leaves are the numbers of random lists: many of their roots are made of others.
var leaves = []api.Rat{"2", "3", "6", "8", "1/2", "3/2", "12", "5", "-1", "0", "1", "4", "9/4", "-2/3", "1/3", "-7", "10", "100/3", "1/100"}

// randomList returns a list of random nodes whose weights are at most modelWeight.
// It begins with some roots; most nodes with an error are left out.
func randomList(random *rand.Rand, size int) []api.RlNode {
	var l []api.RlNode
	for range 1 + random.Intn(3) {
		l = append(l, api.RlNode{Kind: api.RlNum, Val: leaves[random.Intn(8)]})
		l = append(l, api.RlNode{Kind: api.RlRoot, A: len(l) - 1})
	}
	for len(l) < size {
		l = append(l, randomNode(random, len(l)))
		w, e := reals.Weight(l, len(l)-1)
		_, fault := reals.Sign(l, len(l)-1)
		if e != api.OK || w > modelWeight || fault != api.OK && random.Intn(3) > 0 {
			l = l[:len(l)-1]
		}
	}
	return l
}

// randomNode returns a node behind n others; its operands are often late ones.
func randomNode(random *rand.Rand, n int) api.RlNode {
	operand := func() int {
		if random.Intn(2) == 0 {
			return random.Intn(n)
		}
		return max(n-1-random.Intn(4), 0)
	}
	kind := 1 + random.Intn(api.RlMax)
	switch {
	case kind == api.RlNum:
		return api.RlNode{Kind: kind, Val: leaves[random.Intn(len(leaves))]}
	case kind <= api.RlRoot:
		return api.RlNode{Kind: kind, A: operand()}
	}
	return api.RlNode{Kind: kind, A: operand(), B: operand()}
}

// TestP3_Model_Random compares all calls with the model, for random lists.
func TestP3_Model_Random(t *testing.T) {
	random := rand.New(rand.NewSource(3))
	for range 700 {
		l := randomList(random, 6+random.Intn(18))
		compareWithModel(t, random, l)
	}
}

// TestP3_Model_Squares compares all calls with the model, for lists whose roots
// are those of squares of other nodes, or of what depends on other roots.
func TestP3_Model_Squares(t *testing.T) {
	random := rand.New(rand.NewSource(4))
	for _, text := range []string{
		"2; 3; sqrt 0; sqrt 1; 2 plus 3; 4 times 4; sqrt 5; 6 less 4",
		"2; 3; sqrt 0; sqrt 1; 2 less 3; 4 times 4; sqrt 5; 6 plus 4; 6 less 4; 6 by 4",
		"2; 3; sqrt 0; 1 plus 2; 3 plus 2; sqrt 4; 2 plus 2; 6 times 2; 5 less 2",
		"2; 8; 18; sqrt 0; sqrt 1; sqrt 2; 3 plus 4; 6 less 5; 5 less 4; 8 less 3",
		"2; 3; 6; sqrt 0; sqrt 1; sqrt 2; 3 times 4; 6 less 5; 0 by 7; 5 plus 6; 0 by 9",
		"6; 3; 2; sqrt 0; sqrt 1; 3 by 4; sqrt 2; 5 less 6; 5 min 6; 5 max 6; 3 less 4; 10 times 6",
		"2; sqrt 0; 1 times 1; 2 times 0; sqrt 3; 4 less 0; sqrt 2; 6 less 1; sqrt 5; sqrt 7",
		"2; sqrt 0; sqrt 1; sqrt 2; 3 times 3; 4 times 4; 5 times 5; 6 less 0; 4 less 2; sqrt 3",
		"5; sqrt 0; 1 plus 0; 2 plus 2; sqrt 3; 2; sqrt 5; 5 plus 5; 4 by 6",
		"5; 24; sqrt 1; 0 plus 2; 0 less 2; sqrt 3; sqrt 4; 5 times 6; 5 plus 6; 8 times 8; 9 less 0; 5 min 6",
		"7; 40; sqrt 1; 0 plus 2; sqrt 3; 5; 2; sqrt 5; sqrt 6; 7 plus 8; 4 less 9; sqrt 10",
		"1/2; 2; sqrt 0; sqrt 1; 2 plus 2; 4 less 3; 2 by 3; 2 times 3; 6 less 0",
	} {
		l := list(t, text)
		for range 20 {
			compareWithModel(t, random, l)
		}
	}
}

// compareWithModel compares all calls for all nodes of a list.
func compareWithModel(t *testing.T, random *rand.Rand, l []api.RlNode) {
	t.Helper()
	models := modelsOf(l)
	for i, m := range models {
		compareNode(t, l, i, m)
		j := random.Intn(len(l))
		compareCmp(t, l, i, j, m, models[j])
		if sign, e := reals.Sign(l, i); e == api.OK && m.e == api.OK && sign == m.x.Sign() {
			comparePlaces(t, random, l, i, m)
			compareRound(t, random, l, i, m)
		}
	}
}

func compareNode(t *testing.T, l []api.RlNode, i int, m model) {
	t.Helper()
	sign := 0
	if m.e == api.OK {
		sign = m.x.Sign()
	}
	if s, e := reals.Sign(l, i); s != sign || e != m.e {
		t.Errorf("%s: Sign of %d: %d, error %d, want %d, error %d", textOf(l), i, s, e, sign, m.e)
	}
	if w, e := reals.Weight(l, i); w != m.weight || e != api.OK {
		t.Errorf("%s: Weight of %d: %d, error %d, want %d", textOf(l), i, w, e, m.weight)
	}
	if roots, e := reals.Roots(l, i); !slices.Equal(roots, m.roots) || e != m.e {
		t.Errorf("%s: Roots of %d: %v, error %d, want %v, error %d", textOf(l), i, roots, e, m.roots, m.e)
	}
	want := new(big.Rat)
	if m.plain != nil {
		want = m.plain
	}
	if x, plain, e := reals.Rational(l, i); toBig(t, x).Cmp(want) != 0 || plain != (m.plain != nil) || e != m.e {
		t.Errorf("%s: Rational of %d: %s, %v, error %d, want %v, error %d", textOf(l), i, x.Text(), plain, e, m.plain, m.e)
	}
}

func compareCmp(t *testing.T, l []api.RlNode, i, j int, a, b model) {
	t.Helper()
	order, want := 0, api.OK
	roots := slices.Concat(a.roots, b.roots)
	slices.Sort(roots)
	switch {
	case a.e != api.OK:
		want = a.e
	case b.e != api.OK:
		want = b.e
	case len(slices.Compact(roots)) > 3:
		want = api.ErrLong
	default:
		if rest := newFloat().Sub(a.x, b.x); !tiny(rest) {
			order = rest.Sign()
		}
	}
	if o, e := reals.Cmp(l, i, j); o != order || e != want {
		t.Errorf("%s: Cmp of %d and %d: %d, error %d, want %d, error %d", textOf(l), i, j, o, e, order, want)
	}
}

// comparePlaces compares Floor, Enclose, Log and Within for a node that has a
// value.
func comparePlaces(t *testing.T, random *rand.Rand, l []api.RlNode, i int, m model) {
	t.Helper()
	k := random.Intn(200) - 100
	if x, e := reals.Floor(l, i, k); e != api.OK || toBig(t, x).Cmp(new(big.Rat).SetInt(m.floor(k))) != 0 {
		t.Errorf("%s: Floor of %d with %d: %s, error %d, want %s", textOf(l), i, k, x.Text(), e, m.floor(k))
	}
	bits := 1 + random.Intn(90)
	wantLo, wantHi := m.enclosed(bits)
	lo, hi, e := reals.Enclose(l, i, bits)
	if e != api.OK || toBig(t, lo).Cmp(wantLo) != 0 || toBig(t, hi).Cmp(wantHi) != 0 {
		t.Errorf("%s: Enclose of %d with %d bits: %s and %s, error %d, want %s and %s", textOf(l), i, bits, lo.Text(), hi.Text(), e, wantLo, wantHi)
	}
	wantLog, wantE := 0, api.ErrZero
	if m.x.Sign() != 0 {
		wantLog, wantE = m.log(), api.OK
	}
	if k, e := reals.Log(l, i); k != wantLog || e != wantE {
		t.Errorf("%s: Log of %d: %d, error %d, want %d", textOf(l), i, k, e, wantLog)
	}
	compareWithin(t, l, i, m, lo, hi.Sub(lo))
	compareWithin(t, l, i, m, hi, hi.Sub(lo).Mul(num(t, "1/3")))
	compareWithin(t, l, i, m, lo, exact.Num{})
	compareWithin(t, l, i, m, exact.Int(int64(random.Intn(9)-4)), num(t, "3/2"))
}

func compareWithin(t *testing.T, l []api.RlNode, i int, m model, x, d exact.Num) {
	t.Helper()
	want := m.compare(toBig(t, x.Sub(d))) >= 0 && m.compare(toBig(t, x.Add(d))) <= 0
	if is, e := reals.Within(l, i, x, d); is != want || e != api.OK {
		t.Errorf("%s: Within of %d, x %s, d %s: %v, error %d", textOf(l), i, x.Text(), d.Text(), is, e)
	}
}

// compareRound compares with how package floats rounds a number that is so near to
// the value that all formats round it alike.
func compareRound(t *testing.T, random *rand.Rand, l []api.RlNode, i int, m model) {
	t.Helper()
	lo, hi, e := reals.Enclose(l, i, 400)
	if e != api.OK || m.compare(toBig(t, lo)) < 0 || m.compare(toBig(t, hi)) > 0 {
		t.Fatalf("%s: Enclose of %d with 400 bits: %s and %s, error %d", textOf(l), i, lo.Text(), hi.Text(), e)
	}
	near := lo.Add(hi).Mul(num(t, "1/2"))
	formats := []api.Format{{E: 3, P: 3}, {E: 2, P: 3}, {E: 3, P: 2}, {E: 5, P: 11}, {E: 11, P: 113}}
	f, mode := formats[random.Intn(len(formats))], modes[random.Intn(len(modes))]
	want, wantFlags, _ := floats.Round(f, mode, near)
	if w, flags, e := reals.Round(l, i, f, mode); w != want || flags != wantFlags || e != api.OK {
		t.Errorf("%s: Round of %d to %v, mode %d: %v, flags %d, error %d, want %v, flags %d", textOf(l), i, f, mode, w, flags, e, want, wantFlags)
	}
}
