package proofs_test

import (
	"slices"
	"testing"

	"vernier/api"
	"vernier/proofs"
)

// TestP7_7_Join: two proofs become one.
func TestP7_7_Join(t *testing.T) {
	p := program(t, two)
	a := proof("1 7/2 1/512", split(1, "3/2"), ofTwo(t).Items[2], ofTwo(t).Items[3])
	b := proof("2 5 1/1024", ofTwo(t).Items[4])
	want := ofTwo(t)
	expectProof(t, "both", want, api.OK)(proofs.Join(p, 0, "1", a, b))
	// Nothing but the claims of both is looked at.
	odd := api.Proof{Items: []api.PfItem{{Kind: 9, Input: -5, At: "x", Claims: claims(t, "77 x y z")}}, Lo: "3", Hi: "2", Err: "-1"}
	expectProof(t, "items that are none", api.Proof{Items: append([]api.PfItem{split(0, "1/3")}, odd.Items[0], odd.Items[0]), Lo: "3", Hi: "2", Err: "-1"}, api.OK)(proofs.Join(p, 0, "1/3", odd, odd))
	expectProof(t, "no items", api.Proof{Items: []api.PfItem{split(0, "1/3")}, Lo: "1", Hi: "5", Err: "1/512"}, api.OK)(proofs.Join(p, 0, "1/3", proof("4 5 1/512"), proof("1 2 0")))
	for _, x := range []struct{ a, b, want string }{
		{"0 1 1/8", "2 3 1/4", "0 3 1/4"}, {"2 3 1/4", "0 1 1/8", "0 3 1/4"}, {"0 4 1/8", "1 3 1/8", "0 4 1/8"}, {"1 3 0", "-1/3 7/2 0", "-1/3 7/2 0"},
	} {
		q, e := proofs.Join(p, 1, "2", proof(x.a), proof(x.b))
		expectProof(t, x.a+" and "+x.b, proof(x.want, split(1, "2")), api.OK)(q, e)
	}
	many := api.Proof{Items: make([]api.PfItem, 100), Lo: "0", Hi: "1", Err: "0"}
	more := many
	more.Items = make([]api.PfItem, 99)
	if q, e := proofs.Join(p, 0, "1", many, more); len(q.Items) != 200 || e != api.OK {
		t.Errorf("200 items: %d, error %d", len(q.Items), e)
	}
	bad := proof("x 2 0")
	none := api.Proof{}
	for _, x := range []struct {
		name  string
		input int
		at    api.Rat
		a, b  api.Proof
		e     api.Errno
	}{
		{"no input", 2, "x", none, none, api.ErrRange},
		{"an input below 0", -1, "x", none, none, api.ErrRange},
		{"no place", 0, "", none, none, api.ErrForm},
		{"a long place", 0, long, none, none, api.ErrLong},
		{"a place at the lower end", 0, "0", none, none, api.ErrRange},
		{"a place at the upper end", 0, "2", none, none, api.ErrRange},
		{"a place beyond the other input", 1, "1", none, none, api.ErrRange},
		{"a place above", 1, "4", none, none, api.ErrRange},
		{"no Lo", 0, "1", bad, proof(string(long) + " 0 0"), api.ErrForm},
		{"a long Hi", 0, "1", proof("0 " + string(long) + " x"), bad, api.ErrLong},
		{"no Err", 0, "1", proof("0 0 x"), proof(string(long) + " 0 0"), api.ErrForm},
		{"no Lo", 0, "1", b, bad, api.ErrForm},
		{"a long Lo", 0, "1", b, proof(string(long) + " x 0"), api.ErrLong},
		{"a long Hi", 0, "1", b, proof("0 " + string(long) + " x"), api.ErrLong},
		{"no Err", 0, "1", b, proof("0 0 x"), api.ErrForm},
		{"too many items", 0, "1", many, many, api.ErrLong},
		{"numbers come ahead of items", 0, "1", many, api.Proof{Items: many.Items, Lo: "x", Hi: "0", Err: "0"}, api.ErrForm},
	} {
		expectProof(t, x.name, api.Proof{}, x.e)(proofs.Join(p, x.input, x.at, x.a, x.b))
	}
	p.Formats = nil
	expectProof(t, "no program", api.Proof{}, api.ErrArg)(proofs.Join(p, 9, "x", none, none))
}

// TestP7_7_Same: proofs are equal if all of their parts are.
func TestP7_7_Same(t *testing.T) {
	make1 := func() api.Proof {
		q := ofHalves(t)
		q.Items = append([]api.PfItem{split(0, "1/2")}, q.Items[0], ofHalves(t).Items[0])
		squares := func() []api.PfSquare { return []api.PfSquare{sq("1", -1, "1 1"), sq("2", 0, "1 0; 1/2 1")} }
		q.Items[2].Claims[1].Low, q.Items[2].Claims[1].High = squares(), squares()
		q.Items[2].States[0].Low, q.Items[2].States[0].High = squares(), squares()
		return q
	}
	if !proofs.Same(make1(), make1()) || !proofs.Same(api.Proof{}, api.Proof{}) {
		t.Error("equal proofs are not the same")
	}
	claim := func(c *api.PfClaim) []func() {
		return []func(){
			func() { c.Rule++ }, func() { c.Lo = "7" }, func() { c.Hi = "7" }, func() { c.Err = "7" },
			func() { c.Low = append(c.Low, sq("1", -1, "")) }, func() { c.High = append(c.High, sq("1", -1, "")) },
			func() { c.Low[0].Coef = "7" }, func() { c.Low[1].Input++ }, func() { c.Low[0].Poly = nil }, func() { c.High = c.High[:1] },
			func() { c.High[1].Poly[0].Coef = "7" }, func() { c.High[1].Poly[1].Pows[0]++ }, func() { c.Low[1].Poly[1].Pows = nil },
		}
	}
	var q api.Proof
	edits := func() []func() {
		q = make1()
		return slices.Concat([]func(){
			func() { q.Lo = "7" }, func() { q.Hi = "" }, func() { q.Err = "1/3" }, func() { q.Items = q.Items[:2] }, func() { q.Items = append(q.Items, api.PfItem{}) },
			func() { q.Items[0].Kind = 1 }, func() { q.Items[0].Input = 1 }, func() { q.Items[0].At = "1/3" },
			func() { q.Items[1].Claims = q.Items[1].Claims[1:] }, func() { q.Items[1].States = nil },
		}, claim(&q.Items[2].Claims[1]), claim(&q.Items[2].States[0]))
	}
	for i := range edits() {
		edits()[i]()
		if proofs.Same(q, make1()) || proofs.Same(make1(), q) {
			t.Errorf("the edit %d makes no other proof", i)
		}
	}
	// Numbers that are equal, but written in other ways, are other texts.
	if proofs.Same(proof("1 2 0"), proof("1 2 00")) {
		t.Error("other texts")
	}
	empty := api.Proof{Items: []api.PfItem{}}
	if !proofs.Same(empty, api.Proof{}) {
		t.Error("empty items")
	}
	empty.Items = []api.PfItem{{Claims: []api.PfClaim{}, States: []api.PfClaim{{Low: []api.PfSquare{}, High: []api.PfSquare{{Poly: []api.PfTerm{}}}}}}}
	nothing := api.Proof{Items: []api.PfItem{{States: []api.PfClaim{{High: []api.PfSquare{{}}}}}}}
	if !proofs.Same(empty, nothing) || !proofs.Same(nothing, empty) {
		t.Error("empty lists")
	}
	empty.Items[0].States[0].High[0].Poly = []api.PfTerm{{Pows: []int{}}}
	nothing.Items[0].States[0].High[0].Poly = []api.PfTerm{{}}
	if !proofs.Same(empty, nothing) {
		t.Error("empty exponents")
	}
}
