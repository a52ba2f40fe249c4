package bounds_test

import (
	"fmt"
	"strings"
	"testing"

	"vernier/api"
	"vernier/bounds"
	"vernier/exact"
	"vernier/proofs"
)

// The programs of the examples of DOC.md.
const (
	cancels = "format h 5 11; input x : h from 0 to 1; let a : h = x + 1; let b : h = a - 1; result b"
	coarse  = "format f 2 3; input x : f from 0 to 3; let a : f = x * x; result a"
	less1   = "format f 2 3; input x : f from 0 to 1; let a : f = x * x; result a"
)

// TestP8_5_Derive: leaves with errors are split first, then those with the greatest errors.
func TestP8_5_Derive(t *testing.T) {
	// The divisor, x^2 - x + 1/2, is around 0 by the claims, unless x is from 0 to 1/4, from
	// 1/4 to 1/2, from 1/2 to 5/8, and so on.
	near := "format s 8 24; input x : s from 0 to 1; let r : s = 1 / (x * x - x + 0.5); result r"
	for _, x := range []struct {
		what, p     string
		plan        api.BdPlan
		claim, tree string
		e           api.Errno
	}{
		{"cancels", cancels, api.BdPlan{Bits: 64}, "0 1 3/2048", "step 0 1 3/2048", api.OK},
		{"a fault", coarse, api.BdPlan{Bits: 64}, "", "", proofs.ErrFault},
		{"no fault", less1, api.BdPlan{Bits: 64}, "0 1 1/8", "step 0 1 1/8", api.OK},
		{"a fault in halves", coarse, api.BdPlan{Bits: 64, Splits: 40}, "", "", proofs.ErrFault},
		{"too few splits", near, api.BdPlan{Bits: 8, Splits: 3}, "", "", proofs.ErrFault},
		{"enough splits", near, api.BdPlan{Bits: 8, Splits: 4}, "85/64 16 201/8388608",
			"split 0 1/2; split 0 1/4; step 227/128 4 137/134217728; step 2 16 137/8388608; split 0 3/4; split 0 5/8; step 163/64 8 225/67108864; step 73/32 57/8 21/8388608; step 85/64 16 201/8388608", api.OK},
		{"a span without width", "format h 5 11; input x : h from 1 to 1; let r : h = x / 3; result r", api.BdPlan{Bits: 12, Splits: 40}, "1365/4096 2731/8192 1/8192", "step 1365/4096 2731/8192 1/8192", api.OK},
		{"a span without width, with an error", "format h 5 11; input x : h from 1 to 1; let r : h = 1 / (x - 1); result r", api.BdPlan{Bits: 12, Splits: 40}, "", "", proofs.ErrFault},
		{"no input", "format h 5 11; let r : h = 1; result r", api.BdPlan{Bits: 8, Splits: 40}, "1 1 0", "step 1 1 0", api.OK},
		{"the first one of two", "format h 5 11; input x : h from 0 to 2; input y : h from 0 to 2; let r : h = x + y; result r", api.BdPlan{Bits: 8, Splits: 2},
			"0 4 1/512", "split 0 1; step 0 3 1/1024; split 1 1; step 1 3 1/1024; step 2 4 1/512", api.OK},
		{"the second one of two", "format h 5 11; input x : h from 0 to 1; input y : h from 0 to 2; let r : h = x + y; result r", api.BdPlan{Bits: 8, Splits: 1},
			"0 3 1/1024", "split 1 1; step 0 2 1/1024; step 1 3 1/1024", api.OK},
		{"of equal errors the first one", "format h 5 11; input x : h from -1 to 1; let r : h = abs(x) + 1; result r", api.BdPlan{Bits: 8, Splits: 3},
			"1 2 1/1024", "split 0 0; split 0 -1/2; split 0 -3/4; step 7/4 2 1/1024; step 3/2 7/4 1/2048; step 1 3/2 1/2048; step 1 2 1/1024", api.OK},
	} {
		p := program(t, x.p)
		expectProof(t, x.what, p, x.claim, x.tree, x.e)(bounds.Derive(p, x.plan))
		err := "0"
		if x.e == api.OK {
			err = strings.Fields(x.claim)[2]
		}
		expectNum(t, x.what, api.Rat(err), x.e)(bounds.Error(p, x.plan))
	}
}

// TestP8_5_Splits: the tree has as many splits as the plan says, while there is something to
// split.
func TestP8_5_Splits(t *testing.T) {
	p := program(t, square)
	last := exact.Num{}
	for splits := range 41 {
		plan := api.BdPlan{Bits: 30, Splits: splits}
		q, e := bounds.Derive(p, plan)
		if e != api.OK || len(q.Items) != 2*splits+1 {
			t.Fatalf("%d splits: %d items, error %d", splits, len(q.Items), e)
		}
		expectAccepted(t, fmt.Sprint(splits), p, q)
		err, e := bounds.Error(p, plan)
		if err.Text() != q.Err || e != api.OK || splits > 0 && err.Cmp(last) > 0 {
			t.Errorf("%d splits: the error is %s", splits, err.Text())
		}
		last = err
	}
}

// TestP8_5_Errors: that of the plan comes before that of the program.
func TestP8_5_Errors(t *testing.T) {
	p := program(t, square)
	broken := p
	broken.Head = 1
	for _, x := range []struct {
		what string
		p    api.Prog
		plan api.BdPlan
		e    api.Errno
	}{
		{"no plan", api.Prog{}, api.BdPlan{Bits: 401}, api.ErrRange},
		{"no plan", p, api.BdPlan{Bits: 30, Widen: 21}, api.ErrRange},
		{"no program", api.Prog{}, api.BdPlan{Bits: 30}, api.ErrArg},
		{"no head", broken, api.BdPlan{Bits: 30}, api.ErrArg},
	} {
		expectProof(t, x.what, x.p, "", "", x.e)(bounds.Derive(x.p, x.plan))
		expectNum(t, x.what, "0", x.e)(bounds.Error(x.p, x.plan))
		expectProof(t, x.what, x.p, "", "", x.e)(bounds.Prune(x.p, api.Proof{}, x.plan))
	}
}

// tree returns a proof of the chapter's program: splits at numbers, and "-" for the claims
// over what is left there.
func tree(t *testing.T, p api.Prog, plan api.BdPlan, claim, items string) api.Proof {
	t.Helper()
	words := strings.Fields(claim)
	q := api.Proof{Lo: api.Rat(words[0]), Hi: api.Rat(words[1]), Err: api.Rat(words[2])}
	boxes := [][]api.Span{boxOf(p)}
	for word := range strings.FieldsSeq(items) {
		box := boxes[0]
		boxes = boxes[1:]
		if word == "-" {
			l, e := bounds.Leaf(p, box, plan)
			if e != api.OK {
				t.Fatalf("Leaf over %v: error %d", box, e)
			}
			q.Items = append(q.Items, l)
			continue
		}
		q.Items = append(q.Items, api.PfItem{Kind: api.PfSplit, At: api.Rat(word)})
		lower, upper := api.Span{Lo: box[0].Lo, Hi: api.Rat(word)}, api.Span{Lo: api.Rat(word), Hi: box[0].Hi}
		boxes = append([][]api.Span{{lower}, {upper}}, boxes...)
	}
	expectAccepted(t, items, p, q)
	return q
}

// TestP8_6_Prune: halves are put together where the whole claims no more, the inner ones first;
// the claim of the proof stays.
func TestP8_6_Prune(t *testing.T) {
	p := program(t, square)
	step, mean, squares := api.BdPlan{Bits: 30}, api.BdPlan{Bits: 30, Mean: true}, api.BdPlan{Bits: 30, Squares: true}
	parts := "split 0 3/2; step -1/2 5/4 3/2048; split 0 7/4; step 1/2 25/16 3/2048; step 17/16 9/4 3/1024"
	for _, x := range []struct {
		what, items, want string
		made, plan        api.BdPlan
	}{
		{"a leaf alone", "-", "step -1 3 3/1024", step, squares},
		{"halves that claim less", "3/2 - -", "split 0 3/2; step -1/2 5/4 3/2048; step 1/4 5/2 3/1024", step, step},
		{"halves that claim more", "3/2 - -", "squares 0 2 3/1024 low 2 high 2", step, squares},
		{"halves that claim the same", "3/2 - -", "squares 0 2 3/1024 low 2 high 2", squares, squares},
		{"halves that claim a lesser Lo", "3/2 - -", "split 0 3/2; squares 0 3/4 5/4096 low 2 high 2; squares 3/4 2 3/1024 low 2 high 2", squares, mean},
		{"none", "3/2 - 7/4 - -", parts, step, step},
		{"the inner one", "3/2 - 7/4 - -", "split 0 3/2; step -1/2 5/4 3/2048; mean 9/16 33/16 3/1024", step, mean},
		{"the outer one as well", "3/2 - 7/4 - -", "squares 0 2 3/1024 low 2 high 2", step, squares},
		// The differences in the lower half are exact, if it is split.
		{"the later one", "3/2 5/4 - - 7/4 - -", "split 0 3/2; split 0 5/4; exact -1/4 9/16 1/2048; exact 1/16 1 1/1024; squares 3/4 2 3/1024 low 2 high 2", squares, squares},
	} {
		q := tree(t, p, x.made, "-2 6 1", x.items)
		before := dump(q)
		expectProof(t, x.what, p, "-2 6 1", x.want, api.OK)(bounds.Prune(p, q, x.plan))
		if dump(q) != before {
			t.Errorf("%s: the proof has become another one", x.what)
		}
	}
	// A whole that has an error stays split.
	p = program(t, "format s 8 24; input x : s from 0 to 1; let r : s = 1 / (x * x - x + 0.5); result r")
	q, e := bounds.Derive(p, api.BdPlan{Bits: 8, Splits: 4})
	if e != api.OK {
		t.Fatalf("Derive: error %d", e)
	}
	expectProof(t, "wholes with errors", p, fmt.Sprint(q.Lo, " ", q.Hi, " ", q.Err), treeText(p, q), api.OK)(bounds.Prune(p, q, api.BdPlan{Bits: 8}))
}

// TestP8_6_Kept: leaves that stay are what they were, though a plan would claim less.
func TestP8_6_Kept(t *testing.T) {
	p := program(t, square)
	plan := api.BdPlan{Bits: 30}
	for _, x := range []struct{ lo, hi, want string }{
		{"-1/2", "5/2", "split 0 3/2; step -1/2 5/4 1/10; step 1/4 5/2 1/10"},
		{"-1", "299/100", "split 0 3/2; step -1 5/4 1/10; step 1/4 299/100 1/10"},
		{"-99/100", "3", "split 0 3/2; step -99/100 5/4 1/10; step 1/4 3 1/10"},
		{"-1", "3", "step -1 3 3/1024"},
	} {
		q := tree(t, p, plan, "-2 6 1", "3/2 - -")
		q.Items[1].Claims[2].Lo, q.Items[2].Claims[2].Hi = api.Rat(x.lo), api.Rat(x.hi)
		q.Items[1].Claims[2].Err, q.Items[2].Claims[2].Err = "1/10", "1/10"
		expectAccepted(t, x.want, p, q)
		expectProof(t, x.want, p, "-2 6 1", x.want, api.OK)(bounds.Prune(p, q, plan))
	}
}

// TestP8_6_OneLeaf: a split one half of which is split is not looked at, though the whole
// claims less than its other half.
func TestP8_6_OneLeaf(t *testing.T) {
	p := program(t, square)
	plan := api.BdPlan{Bits: 30}
	for _, x := range []struct {
		items, want string
		loose       int
	}{
		{"3/2 - 7/4 - -", "split 0 3/2; step -2 6 1; split 0 7/4; step 1/2 25/16 3/2048; step 17/16 9/4 3/1024", 1},
		{"7/4 3/2 - - -", "split 0 7/4; split 0 3/2; step -1/2 5/4 3/2048; step 1/2 25/16 3/2048; step -2 6 1", 4},
	} {
		q := tree(t, p, plan, "-2 6 1", x.items)
		q.Items[x.loose].Claims[2] = claims("step -2 6 1")[0]
		expectAccepted(t, x.items, p, q)
		expectProof(t, x.items, p, "-2 6 1", x.want, api.OK)(bounds.Prune(p, q, plan))
	}
}

// TestP8_6_Errors: a proof that is not accepted has the error of the checker.
func TestP8_6_Errors(t *testing.T) {
	p := program(t, square)
	plan := api.BdPlan{Bits: 30}
	good := tree(t, p, plan, "-2 6 1", "3/2 - -")
	for _, x := range []struct {
		what   string
		change func(*api.Proof)
		e      api.Errno
	}{
		{"no items", func(q *api.Proof) { q.Items = nil }, proofs.ErrTree},
		{"too many items", func(q *api.Proof) { q.Items = make([]api.PfItem, 201) }, api.ErrLong},
		{"a half alone", func(q *api.Proof) { q.Items = q.Items[:2] }, proofs.ErrTree},
		{"no number", func(q *api.Proof) { q.Err = "2/2" }, api.ErrForm},
		{"no claim", func(q *api.Proof) { q.Err = "-1" }, proofs.ErrClaim},
		{"a claim that does not follow", func(q *api.Proof) { q.Items[1].Claims[1].Err = "0" }, proofs.ErrClaim},
		{"no rule", func(q *api.Proof) { q.Items[1].Claims[1].Rule = 5 }, proofs.ErrRule},
		{"a lesser claim", func(q *api.Proof) { q.Err = "1/4096" }, proofs.ErrResult},
	} {
		q := good
		q.Items = nil
		for _, item := range good.Items {
			item.Claims = append([]api.PfClaim(nil), item.Claims...)
			q.Items = append(q.Items, item)
		}
		x.change(&q)
		expectProof(t, x.what, p, "", "", x.e)(bounds.Prune(p, q, plan))
	}
	expectProof(t, "no plan", p, "", "", api.ErrRange)(bounds.Prune(p, api.Proof{}, api.BdPlan{Bits: 30, Widen: -1}))
}
