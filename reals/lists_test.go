package reals_test

import (
	"math/rand"
	"slices"
	"testing"

	"vernier/api"
	"vernier/reals"
)

// TestP3_2_Put: nodes that are there, new ones, and full lists.
func TestP3_2_Put(t *testing.T) {
	l := list(t, "2; sqrt 0; 2; sqrt 2; 1 plus 3")
	for x, want := range map[api.RlNode]int{
		{Kind: api.RlNum, Val: "2"}:   0,
		{Kind: api.RlRoot, A: 0}:      1,
		{Kind: api.RlRoot, A: 2}:      3,
		{Kind: api.RlAdd, A: 1, B: 3}: 4,
		{Kind: api.RlAdd, A: 3, B: 1}: 5,
		{Kind: api.RlNum, Val: "1/2"}: 5,
		{Kind: api.RlNeg, A: 4}:       5,
		{Kind: api.RlMin, A: 4, B: 4}: 5,
		{Kind: api.RlRoot, A: 1}:      5,
	} {
		whole := l
		if want == len(l) {
			whole = append(slices.Clone(l), x)
		}
		if out, at, e := reals.Put(l, x); e != api.OK || at != want || !slices.Equal(out, whole) {
			t.Errorf("Put of %v: %s, %d, error %d", x, textOf(out), at, e)
		}
	}
	for x, want := range badNodes() {
		out, at, e := reals.Put(list(t, "2; 3"), x)
		if e != want || e != api.OK && (at != 0 || len(out) != 0) || e == api.OK && (at != 2 || len(out) != 3) {
			t.Errorf("Put of the node %.50v: %d nodes, %d, error %d, want %d", x, len(out), at, e, want)
		}
	}
	if out, at, e := reals.Put(nil, list(t, "2")[0]); e != api.OK || at != 0 || textOf(out) != "2" {
		t.Errorf("Put in no list: %s, %d, error %d", textOf(out), at, e)
	}
}

// TestP3_2_PutLimits: lists of 300 nodes, and of one more or less.
func TestP3_2_PutLimits(t *testing.T) {
	full := slices.Repeat(list(t, "2"), 300)
	three := list(t, "3")[0]
	if out, at, e := reals.Put(full, full[0]); e != api.OK || at != 0 || len(out) != 300 {
		t.Errorf("Put of a node that is there: %d nodes, %d, error %d", len(out), at, e)
	}
	if out, at, e := reals.Put(full, three); e != api.ErrLong || at != 0 || len(out) != 0 {
		t.Errorf("Put of a node more: %d nodes, %d, error %d", len(out), at, e)
	}
	if out, at, e := reals.Put(full[:299], three); e != api.OK || at != 299 || len(out) != 300 {
		t.Errorf("Put of the last node: %d nodes, %d, error %d", len(out), at, e)
	}
	if _, _, e := reals.Put(full, api.RlNode{Kind: api.RlNeg, A: 300}); e != api.ErrRange {
		t.Errorf("Put of a bad node to a full list: error %d", e)
	}
	if out, at, e := reals.Put(full, api.RlNode{Kind: api.RlNeg, A: 299}); e != api.ErrLong || at != 0 || len(out) != 0 {
		t.Errorf("Put of a good node to a full list: %d nodes, %d, error %d", len(out), at, e)
	}
	if _, _, e := reals.Put(append(slices.Clone(full), full[0]), api.RlNode{}); e != api.ErrLong {
		t.Errorf("Put to a long list: error %d", e)
	}
}

// TestP3_2_Join: numbers of nodes are moved where a kind uses them.
func TestP3_2_Join(t *testing.T) {
	a := list(t, "5; 0 plus 0; 7")
	b := list(t, "2; neg 0; abs 1; sqrt 0; 0 plus 3; 4 less 0; 1 times 5; 6 by 2; 7 min 0; 0 max 8")
	const joined = "5; 0 plus 0; 7; 2; neg 3; abs 4; sqrt 3; 3 plus 6; 7 less 3; 4 times 8; 9 by 5; 10 min 3; 3 max 11"
	if out, e := reals.Join(a, b); e != api.OK || textOf(out) != joined {
		t.Errorf("Join: %s, error %d", textOf(out), e)
	}
	if out, e := reals.Join(nil, b); e != api.OK || !slices.Equal(out, b) {
		t.Errorf("Join of nothing: %s, error %d", textOf(out), e)
	}
	if out, e := reals.Join(b, nil); e != api.OK || !slices.Equal(out, b) {
		t.Errorf("Join with nothing: %s, error %d", textOf(out), e)
	}
	long := slices.Repeat(list(t, "2"), 200)
	if out, e := reals.Join(long, long[:100]); e != api.OK || len(out) != 300 {
		t.Errorf("Join to 300 nodes: %d, error %d", len(out), e)
	}
	if out, e := reals.Join(long, long[:101]); e != api.ErrLong || len(out) != 0 {
		t.Errorf("Join to 301 nodes: %d, error %d", len(out), e)
	}
	bad := []api.RlNode{{Kind: api.RlNum}}
	if _, e := reals.Join(append(bad, long...), []api.RlNode{{}}); e != api.ErrForm {
		t.Errorf("Join of two bad lists: error %d", e)
	}
	if _, e := reals.Join(long, append(long[:150:150], bad...)); e != api.ErrForm {
		t.Errorf("Join of a bad list, too long together: error %d", e)
	}
}

// TestP3_2_Prune: what a node is made of, with new numbers.
func TestP3_2_Prune(t *testing.T) {
	l := list(t, "2; 3; sqrt 0; 1 plus 1; 2 times 2; sqrt 1; 4 less 0; 0 by 0; -1; sqrt 8; 9 plus 5")
	for i, want := range []string{
		"2", "3", "2; sqrt 0", "3; 0 plus 0", "2; sqrt 0; 1 times 1", "3; sqrt 0", "2; sqrt 0; 1 times 1; 2 less 0", "2; 0 by 0",
		"-1", "-1; sqrt 0", "3; sqrt 0; -1; sqrt 2; 3 plus 1",
	} {
		if out, e := reals.Prune(l, i); e != api.OK || textOf(out) != want {
			t.Errorf("Prune of %d: %s, error %d, want %s", i, textOf(out), e, want)
		}
	}
}

// TestP3_11_Prune: Prune keeps signs, roots, weights and errors.
func TestP3_11_Prune(t *testing.T) {
	random := rand.New(rand.NewSource(11))
	for range 300 {
		l := randomList(random, 12)
		for i := range l {
			out, e := reals.Prune(l, i)
			if e != api.OK {
				t.Fatalf("%s: Prune of %d: error %d", textOf(l), i, e)
			}
			last := len(out) - 1
			w, e := reals.Weight(l, i)
			expectInt(t, textOf(out), w, e)(reals.Weight(out, last))
			sign, e := reals.Sign(l, i)
			expectInt(t, textOf(out), sign, e)(reals.Sign(out, last))
			before, e := reals.Roots(l, i)
			if after, f := reals.Roots(out, last); len(after) != len(before) || e != f {
				t.Errorf("%s: Roots %v, and pruned %v", textOf(l), before, after)
			}
		}
	}
}

// TestP3_11_Join: Join keeps signs, roots, weights and errors, and both orders of
// the lists compare alike.
func TestP3_11_Join(t *testing.T) {
	random := rand.New(rand.NewSource(12))
	for range 300 {
		a, b := randomList(random, 8), randomList(random, 9)
		ab, e := reals.Join(a, b)
		ba, f := reals.Join(b, a)
		if e != api.OK || f != api.OK || !slices.Equal(ab[:len(a)], a) || !slices.Equal(ba[:len(b)], b) {
			t.Fatalf("Join: errors %d and %d", e, f)
		}
		for j := range b {
			w, e := reals.Weight(b, j)
			expectInt(t, textOf(ab), w, e)(reals.Weight(ab, j+len(a)))
			sign, e := reals.Sign(b, j)
			expectInt(t, textOf(ab), sign, e)(reals.Sign(ab, j+len(a)))
			roots, e := reals.Roots(b, j)
			for n := range roots {
				roots[n] += len(a)
			}
			expectRoots(t, textOf(ab), roots, e)(reals.Roots(ab, j+len(a)))
			i := random.Intn(len(a))
			order, e := reals.Cmp(ab, i, j+len(a))
			if e == api.OK { // of two errors the first one would come
				expectInt(t, textOf(ba), order, e)(reals.Cmp(ba, i+len(b), j))
			}
		}
	}
}
