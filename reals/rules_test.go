package reals_test

import (
	"math"
	"math/rand"
	"slices"
	"testing"

	"vernier/api"
	"vernier/reals"
)

// TestP1_NoPanic: lists and numbers of all kinds come to an end, and with an error
// the other results are zero.
func TestP1_NoPanic(t *testing.T) {
	random := rand.New(rand.NewSource(15))
	numbers := []int{0, 1, 2, 3, 5, -1, math.MinInt, math.MaxInt}
	texts := []api.Rat{"", "", "", "1", "-2", "0", "1/0", "x", "\xff", nines, nines + "1"}
	pick := func() int { return numbers[random.Intn(len(numbers))] }
	for range 3000 {
		var l []api.RlNode
		for range random.Intn(6) {
			x := api.RlNode{Kind: random.Intn(14) - 2, A: pick(), B: pick(), Val: texts[random.Intn(len(texts))]}
			if random.Intn(3) > 0 {
				x = randomNode(random, len(l)+1)
			}
			l = append(l, x)
		}
		for _, late := range []bool{false, true} {
			for _, c := range calls(late) {
				if zero, e := c.do(l, pick()); e != api.OK && !zero {
					t.Errorf("%s with %v: error %d, but not zero", c.name, l, e)
				}
			}
		}
		x := api.RlNode{Kind: pick(), A: pick(), B: pick(), Val: texts[random.Intn(len(texts))]}
		if out, at, e := reals.Put(l, x); e != api.OK && (len(out) > 0 || at != 0) {
			t.Errorf("Put to %v: error %d, but not zero", l, e)
		}
		if out, e := reals.Join(l, []api.RlNode{x}); e != api.OK && len(out) > 0 {
			t.Errorf("Join to %v: error %d, but not zero", l, e)
		}
	}
}

// TestR4_Memory: no argument is changed, and no result shares memory with one.
func TestR4_Memory(t *testing.T) {
	l := slices.Grow(list(t, "2; sqrt 0; 3; 1 plus 2; sqrt 3"), 20)
	before := slices.Clone(l)
	room := l[:cap(l)]
	for _, c := range calls(false) {
		c.do(l, 4)
	}
	put, _, _ := reals.Put(l, l[2])
	more, _, _ := reals.Put(l, list(t, "5")[0])
	joined, _ := reals.Join(l, l[:3])
	alone, _ := reals.Join(l, nil)
	pruned, _ := reals.Prune(l, 4)
	for _, out := range [][]api.RlNode{put, more, joined, alone, pruned} {
		if len(out) < len(l) || !slices.Equal(out[:len(l)], l) {
			t.Fatalf("not the nodes of the argument: %s", textOf(out))
		}
		clear(out[:cap(out)])
	}
	if !slices.Equal(l, before) || room[len(l)] != (api.RlNode{}) {
		t.Errorf("the argument has become %s", textOf(l))
	}
	roots, _ := reals.Roots(l, 4)
	roots[0] = 9
	expectRoots(t, "the roots again", []int{1, 4}, api.OK)(reals.Roots(l, 4))
}

// TestR3_Empty: an empty list is no list.
func TestR3_Empty(t *testing.T) {
	for _, l := range [][]api.RlNode{nil, {}} {
		expectInt(t, "Check", 0, api.OK)(reals.Check(l))
		if out, e := reals.Join(l, l); e != api.OK || len(out) != 0 {
			t.Errorf("Join: %v, error %d", out, e)
		}
		for _, c := range calls(true) {
			if zero, e := c.do(l, 0); !zero || e != api.ErrNone {
				t.Errorf("%s: zero %v, error %d", c.name, zero, e)
			}
		}
	}
}
