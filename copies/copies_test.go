package copies_test

import (
	"fmt"
	"testing"

	"vernier/api"
	"vernier/copies"
)

func squares() []api.PfSquare {
	return []api.PfSquare{
		{Coef: "1", Input: 1, Poly: []api.PfTerm{{Coef: "2", Pows: []int{1, 2}}, {Coef: "3", Pows: []int{3, 4}}}},
		{Coef: "4", Input: -1, Poly: []api.PfTerm{{Coef: "5", Pows: []int{5, 6}}}},
	}
}

func items() []api.PfItem {
	claim := func() api.PfClaim {
		return api.PfClaim{Rule: api.PfSquares, Lo: "0", Hi: "1", Err: "1/8", Low: squares(), High: squares()}
	}
	return []api.PfItem{
		{Kind: api.PfSplit, Input: 1, At: "1/2"},
		{Kind: api.PfLeaf, Claims: []api.PfClaim{claim(), claim()}, States: []api.PfClaim{claim()}},
		{Kind: api.PfLeaf, Claims: []api.PfClaim{claim()}, States: []api.PfClaim{}},
	}
}

// change gives each part of items another value.
func change(l []api.PfItem) {
	for i := range l {
		for _, list := range [][]api.PfClaim{l[i].Claims, l[i].States} {
			for k := range list {
				for _, s := range [][]api.PfSquare{list[k].Low, list[k].High} {
					for m := range s {
						for n := range s[m].Poly {
							clear(s[m].Poly[n].Pows)
							s[m].Poly[n].Coef = "7"
						}
						s[m].Coef = "8"
					}
				}
				list[k].Lo = "9"
			}
		}
		l[i].At = "?"
	}
}

// TestR4_Items: copies are equal, and share no memory.
func TestR4_Items(t *testing.T) {
	l := items()
	c := copies.Items(l)
	want := fmt.Sprintf("%+v", items())
	if got := fmt.Sprintf("%+v", c); got != want {
		t.Errorf("%s, want %s", got, want)
	}
	change(c)
	if got := fmt.Sprintf("%+v", l); got != want {
		t.Errorf("the items have become %s", got)
	}
	if len(copies.Items(nil)) != 0 {
		t.Error("there are copies of nothing")
	}
}
